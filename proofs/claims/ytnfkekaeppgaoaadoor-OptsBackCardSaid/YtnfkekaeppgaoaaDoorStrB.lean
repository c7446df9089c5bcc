/- Strings: their bytes as a list; what index, slice, len, == and + come to. General: no code of the project. -/
import Derived.Test.YtnfkekaeppgaoaaDoorProg
import Derived.Test.YtnfkekaeppgaoaaDoorBase
import Derived.Lib.Strings
namespace Go.Proofs.YtnfkekaeppgaoaaDoor
open Go.RowKit

/-- The string of these bytes. -/
def strA (l : List UInt8) : ByteArray := ⟨l.toArray⟩
theorem strA_size (l : List UInt8) : (strA l).size = l.length := by simp [strA, ByteArray.size]
theorem strA_list (l : List UInt8) : (strA l).toList = l := by rw [ByteArray.toList_eq]; simp [strA]
theorem strA_of (s : ByteArray) : ∃ l, s = strA l := ⟨s.data.toList, by simp [strA]⟩
theorem strA_app (a b : List UInt8) : strA a ++ strA b = strA (a ++ b) := by
  apply ByteArray.ext
  simp [strA, ByteArray.data_append]
theorem strA_one {a b : List UInt8} (h : strA a = strA b) : a = b := by
  have := congrArg ByteArray.toList h
  rwa [strA_list, strA_list] at this
/-- string(b) of bytes. -/
theorem strOf_run {l : List UInt8} {v : Value} {w : World} (h : IsBytes l v w) : (convert 42 9 v).run Tryd.prog w = .ok (.string (strA l)) w := by
  obtain ⟨A, c, rfl, hc, hr⟩ := h
  exact run_str w 42 9 5 Tryd.underlying42 Tryd.underlying5 Tryd.underlying9 _ A l c hr _ rfl
/-- string([]byte{c}) of a byte that a number is. -/
theorem strOne_run {c : UInt8} {n : Int} (hc : (c.toNat : Int) = n) (w : World) : (convert 42 9 (.slice (some ⟨w.heap.size, 0, none⟩) 1 1)).run Tryd.prog (w.alloc (.cells #[.int .u8 n] 5)) = .ok (.string (strA [c])) (w.alloc (.cells #[.int .u8 n] 5)) := by
  subst hc
  exact strOf_run (l := [c]) ⟨_, 1, rfl, Nat.le_refl _, Rd.new w #[.int .u8 (c.toNat : Int)] _⟩
/-- The room that + asks for. -/
theorem strA_room {a b : List UInt8} (h : a.length + b.length ≤ 2000000000000) : ¬ 9223372036854775807 < (strA a).size + (strA b).size := by
  rw [strA_size, strA_size]
  omega
theorem strA_get {l : List UInt8} {k : Nat} (h : k < (strA l).size) : (strA l)[k] = l[k]'(by rw [strA_size] at h; exact h) := by
  show (strA l).data[k] = _
  simp [strA]
theorem strA_empty (l : List UInt8) : (strA l).toList.isEmpty = l.isEmpty := by rw [strA_list]
theorem strA_extract (l : List UInt8) (f k : Nat) : (strA l).extract f k = strA ((l.drop f).take (k - f)) := by
  rw [Lib.extract_eq]
  simp [strA]
end Go.Proofs.YtnfkekaeppgaoaaDoor
