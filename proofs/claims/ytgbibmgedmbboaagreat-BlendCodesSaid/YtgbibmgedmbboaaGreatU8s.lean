/- Bytes as numbers: rows and cells of such. General: no code of the project. -/
import Derived.Test.YtgbibmgedmbboaaGreatInts
namespace Go.Proofs.YtgbibmgedmbboaaGreat
open Go.RowKit Go.Sort

theorem info_u8r : (Tryz.prog.info? 5).map (fun i => (i.zero, i.size, i.bytes)) = some (some (.int .u8 0), 1, 1) := by kernel_rfl
/-- Numbers as bytes. -/
def u8s (o : List Nat) : List UInt8 := o.map UInt8.ofNat
theorem u8s_length (o : List Nat) : (u8s o).length = o.length := by simp [u8s]
/-- How long a slice is. -/
def lenR : Value → Nat
  | .slice _ n _ => n
  | _ => 0
theorem bvs_u8s (o : List Nat) {c : Nat} (h : c < 256) : bvs (u8s (o ++ [c])) = bvs (u8s o) ++ [Value.int .u8 (c : Int)] := by
  have h2 : (UInt8.ofNat c).toNat = c := by simp [UInt8.toNat_ofNat']; omega
  simp [u8s, bvs, h2]
theorem u8s_append (a b : List Nat) : u8s (a ++ b) = u8s a ++ u8s b := by simp [u8s]
/-- A new row of bytes. -/
def NewFour (B : Nat) (l : List Nat) (v : Value) (w : World) : Prop := ∃ g, v = .slice (some ⟨g, 0, none⟩) l.length l.length ∧ B ≤ g ∧ Blk w g 5 (l.map fun (b : Nat) => Value.int .u8 (b : Int))
theorem NewFour.grow (B : Nat) (l : List Nat) (v : Value) (w w' : World) (h : NewFour B l v w) (hb : Below w.heap.size w w') : NewFour B l v w' := by
  obtain ⟨g, h1, h2, h3⟩ := h
  exact ⟨g, h1, h2, h3.grow hb⟩
/-- A row of one's own, of such bytes. -/
def OwnB (base : Nat) (l : List Nat) (v : Value) (w : World) : Prop := w.ownsRow base 5 1 v l.length (bvs (u8s l))
theorem OwnB.grow (base : Nat) (l : List Nat) (v : Value) (w w' : World) (h : OwnB base l v w) (hb : Below w.heap.size w w') : OwnB base l v w' := own_kept h hb
theorem u8s_four (o : List Nat) {x y z t : Nat} (hx : x < 256) (hy : y < 256) (hz : z < 256) (ht : t < 256) : bvs (u8s (o ++ [x, y, z, t])) = bvs (u8s o) ++ [Value.int .u8 (x : Int), Value.int .u8 (y : Int), Value.int .u8 (z : Int), Value.int .u8 (t : Int)] := by
  rw [show o ++ [x, y, z, t] = o ++ [x] ++ [y] ++ [z] ++ [t] by simp, bvs_u8s _ ht, bvs_u8s _ hz, bvs_u8s _ hy, bvs_u8s _ hx]
  simp
/-- Bytes, as numbers, as cells. -/
def nvs (B : List Nat) : List Value := B.map fun (b : Nat) => Value.int .u8 (b : Int)
theorem nvs_length (B : List Nat) : (nvs B).length = B.length := by simp [nvs]
theorem nvs_bvs (l : List UInt8) : nvs (l.map UInt8.toNat) = bvs l := by simp [nvs, bvs]
theorem nvs_drop (B : List Nat) (k : Nat) : (nvs B).drop k = nvs (B.drop k) := by simp [nvs]
end Go.Proofs.YtgbibmgedmbboaaGreat
