/- Layer 27: the ways of coding, as values of an interface. -/
import Derived.Test.YtflcmmeoppdhdaaGreatCloneB
import Derived.Test.YtflcmmeoppdhdaaGreatWordFn
import Derived.Test.YtflcmmeoppdhdaaGreatInts
import Derived.Laws.Rows
import Derived.OwnWalk
namespace Go.Proofs.YtflcmmeoppdhdaaGreat
open Go.RowKit Go.Sort

/-- A function, as a value. -/
def fnV (K : Nat) : Value := .func (.func K) #[] #[]
/-- The way of mode k: its type, what it holds. -/
def wayT : Nat → Nat
  | 0 => 74
  | 1 => 75
  | 2 => 78
  | 3 => 78
  | 4 => 78
  | _ => 80
def wayX : Nat → Value
  | 0 => .agg #[]
  | 1 => .agg #[]
  | 2 => .agg #[fnV 43, fnV 44]
  | 3 => .agg #[fnV 45, fnV 46]
  | 4 => .agg #[fnV 47, fnV 48]
  | _ => .agg #[fnV 49, fnV 50]
abbrev wayV (k : Nat) : Value := .iface (wayT k) (wayX k)
def waysL : List Value := [wayV 0, wayV 1, wayV 2, wayV 3, wayV 4, wayV 5]
theorem size_ways : (Tryz.prog.info? 48).map (·.size) = some 6 := by kernel_rfl
set_option maxRecDepth 100000 in
set_option maxHeartbeats 1000000 in
theorem allWays_any (w : World) : Calls Tryz.prog 25 #[] w fun e w' => e = .returned (.agg #[.iface (wayT 0) (wayX 0), .iface (wayT 1) (wayX 1), .iface (wayT 2) (wayX 2), .iface (wayT 3) (wayX 3), .iface (wayT 4) (wayX 4), .iface (wayT 5) (wayX 5)]) ∧ Below w.heap.size w w' := by
  go_enter Tryz.func25, Tryz.ntmps25
  go_wp2
  exact bodyPost_ret (v := .agg #[.iface (wayT 0) (wayX 0), .iface (wayT 1) (wayX 1), .iface (wayT 2) (wayX 2), .iface (wayT 3) (wayX 3), .iface (wayT 4) (wayX 4), .iface (wayT 5) (wayX 5)]) (results_cell_row Tryz.results25 _ _ w.heap.size 48 _ (0, 0) _ rfl (heap_alloc_new w _) Tryz.underlying48 rfl size_ways) rfl ⟨rfl, (Below.refl _ _).alloc (Nat.le_refl _) _⟩
theorem ways_at (k : Nat) (hk : k ≤ 5) : waysL[k]? = some (wayV k) := by
  match k, hk with
  | 0, _ => rfl
  | 1, _ => rfl
  | 2, _ => rfl
  | 3, _ => rfl
  | 4, _ => rfl
  | 5, _ => rfl
/-- The ways as a row in new memory. -/
theorem ways_row (w : World) : Blk (w.alloc (.cells #[.iface (wayT 0) (wayX 0), .iface (wayT 1) (wayX 1), .iface (wayT 2) (wayX 2), .iface (wayT 3) (wayX 3), .iface (wayT 4) (wayX 4), .iface (wayT 5) (wayX 5)] 48)) w.heap.size 48 waysL ∧ Below w.heap.size w (w.alloc (.cells #[.iface (wayT 0) (wayX 0), .iface (wayT 1) (wayX 1), .iface (wayT 2) (wayX 2), .iface (wayT 3) (wayX 3), .iface (wayT 4) (wayX 4), .iface (wayT 5) (wayX 5)] 48)) :=
  ⟨heap_alloc_new w _, (Below.refl _ _).alloc (Nat.le_refl _) _⟩
set_option maxRecDepth 100000 in
set_option maxHeartbeats 1000000 in
theorem wayOf_any {k : Nat} (hk : k ≤ 5) (w : World) : Calls Tryz.prog 17 #[.int .i64 (k : Int)] w fun e w' => e = .returned (.tuple #[wayV k, .bool true]) ∧ Below w.heap.size w w' := by
  have ha := ways_at k hk
  have h0 : ¬ (k : Int) < 0 := by omega
  have h1 : (k : Int) < 6 := by omega
  have h2 : decide ((k : Int) < 0) = false := by simp
  have h3 : decide (6 ≤ (k : Int)) = false := by simp; omega
  obtain ⟨V, hV⟩ : ∃ V, V = wayV k := ⟨_, rfl⟩
  rw [← hV] at ha ⊢
  have HA := Lib.hid ha
  clear hV hk ha
  go_enter Tryz.func17, Tryz.ntmps17
  go_wp2_with fail
  refine (allWays_any _).mono ?_
  rintro e w1 ⟨rfl, hb⟩
  obtain ⟨hr2, hb2⟩ := ways_row w1
  have hc := hr2.cell k
  rw [HA.out] at hc
  have HB2 := Lib.hid (hb.trans (hb2.mono hb.size))
  clear hr2 hb2 hb
  go_wp2
  go_ret2
  exact ⟨rfl, HB2.out⟩
set_option maxRecDepth 100000 in
theorem wayOf_not {k : Int} (hk : k < 0 ∨ 5 < k) (w : World) : Calls Tryz.prog 17 #[.int .i64 k] w fun e w' => e = .returned (.tuple #[.nilIface, .bool false]) ∧ Below w.heap.size w w' := by
  have h2 : (decide (k < 0) || decide (6 ≤ k)) = true := by
    rcases hk with h | h
    · simp [h]
    · simp [show (6 : Int) ≤ k by omega]
  clear hk
  go_enter Tryz.func17, Tryz.ntmps17
  go_wp2_with fail
  refine (allWays_any _).mono ?_
  rintro e w1 ⟨rfl, hb⟩
  obtain ⟨hr2, hb2⟩ := ways_row w1
  have HB2 := Lib.hid (hb.trans (hb2.mono hb.size))
  clear hr2 hb2 hb
  go_wp2
  all_goals
    go_ret2
    exact ⟨rfl, HB2.out⟩
/-- What a method's call comes to: the function, what it is called with first. -/
def codeK : Nat → Nat
  | 0 => 271
  | 1 => 275
  | _ => 302
def decK : Nat → Nat
  | 0 => 272
  | 1 => 276
  | _ => 303
theorem meth_code {k : Nat} (hk : k ≤ 5) (w : World) : Sem.run Tryz.prog (method (Tryz.prog.types.size + 100) (wayT k) (wayX k) "winepress/modes.code") w = .ok (codeK k, wayX k) w := by
  rcases (show k = 0 ∨ k = 1 ∨ k = 2 ∨ k = 3 ∨ k = 4 ∨ k = 5 by omega) with rfl | rfl | rfl | rfl | rfl | rfl
  all_goals kernel_rfl
theorem meth_dec {k : Nat} (hk : k ≤ 5) (w : World) : Sem.run Tryz.prog (method (Tryz.prog.types.size + 100) (wayT k) (wayX k) "winepress/modes.decode") w = .ok (decK k, wayX k) w := by
  rcases (show k = 0 ∨ k = 1 ∨ k = 2 ∨ k = 3 ∨ k = 4 ∨ k = 5 by omega) with rfl | rfl | rfl | rfl | rfl | rfl
  all_goals kernel_rfl
def leaK : Nat → Nat
  | 0 => 273
  | 1 => 277
  | _ => 304
theorem meth_least {k : Nat} (hk : k = 0 ∨ k = 1 ∨ k = 5) (w : World) : Sem.run Tryz.prog (method (Tryz.prog.types.size + 100) (wayT k) (wayX k) "winepress/modes.least") w = .ok (leaK k, wayX k) w := by
  rcases hk with rfl | rfl | rfl
  all_goals kernel_rfl
theorem asserts_yes {k : Nat} (hk : k = 0 ∨ k = 1 ∨ k = 5) (w : World) : (Instr.typeAssert (wayV k) 43 82 true).run Tryz.prog w = .ok (.tuple #[wayV k, .bool true]) w := by
  rcases hk with rfl | rfl | rfl
  all_goals kernel_rfl
theorem least_one (p : String → Bool) (f : String → String) (s : String) : ∃ m, (Instr.least ([s].partition p).2 <|> Instr.least (([s].partition p).1.map f)) = some m := by
  cases h : p s with
  | true => exact ⟨f s, by simp [List.partition, List.partition.loop, h, Instr.least]⟩
  | false => exact ⟨s, by simp [List.partition, List.partition.loop, h, Instr.least]⟩
theorem missing_one {want : Array (String × Nat)} {got : Array Method} {s : String} (h : (want.toList.filter fun x => !got.any fun m => m.name == x.1 && m.sig == x.2).map (·.1) = [s]) : ∃ m, Instr.missingMethod want got = some m := by
  unfold Instr.missingMethod
  simp only
  rw [h]
  exact least_one _ _ s
def lackOf (d : Option TypeDesc) (i : Option TypeInfo) : Option (List String) :=
  match d, i with
  | some (.interface want), some ti => some ((want.toList.filter fun x => !ti.methods.any fun m => m.name == x.1 && m.sig == x.2).map (·.1))
  | _, _ => none
theorem lack_one : lackOf (Tryz.prog.underlying 82) (Tryz.prog.info? 78) = some ["winepress/modes.least"] := by kernel_rfl
theorem lack_of {d : Option TypeDesc} {i : Option TypeInfo} {l : List String} (h : lackOf d i = some l) : ∃ want ti, d = some (.interface want) ∧ i = some ti ∧ (want.toList.filter fun x => !ti.methods.any fun m => m.name == x.1 && m.sig == x.2).map (·.1) = l := by
  unfold lackOf at h
  split at h
  · next want ti => exact ⟨want, ti, rfl, rfl, Option.some.inj h⟩
  · cases h
theorem asserts_not {k : Nat} (hk : k = 2 ∨ k = 3 ∨ k = 4) (w : World) : (Instr.typeAssert (wayV k) 43 82 true).run Tryz.prog w = .ok (.tuple #[.nilIface, .bool false]) w := by
  obtain ⟨want, ti, h1, h2, h3⟩ := lack_of lack_one
  obtain ⟨m, hm⟩ := missing_one h3
  have h4 := run_typeInfo (P := Tryz.prog) w h2
  have hz : (zeroValue 82).run Tryz.prog w = .ok .nilIface w := by kernel_rfl
  have ht : wayT k = 78 := by rcases hk with rfl | rfl | rfl <;> rfl
  unfold Instr.typeAssert wayV
  rw [ht]
  simp [run_underlying h1, h4, hm, hz, go_sem]
theorem filled_any (n : Nat) (hn : n ≤ 1000000000) (w : World) : Calls Tryz.prog 280 #[.int .i64 (n : Int)] w fun e w' => e = .returned (.int .i64 (((n + 7) / 8 : Nat) : Int)) ∧ w' = w := by
  have h : ((n : Int) + 8 - 1) / 8 = (((n + 7) / 8 : Nat) : Int) := by omega
  rw [← h]
  clear h
  go_enter Tryz.func280, Tryz.ntmps280
  go_wp2
  go_ret
  exact ⟨rfl, rfl⟩
theorem theyLeast_any (V n : Int) (w : World) : Calls Tryz.prog 273 #[.agg #[], .int .i64 V, .int .i64 n] w fun e w' => e = .returned (.int .i64 n) ∧ Below w.heap.size w w' := by
  go_enter Tryz.func273, Tryz.ntmps273
  go_wp2
  go_ret
  exact ⟨rfl, (Below.refl _ _).alloc (Nat.le_refl _) _⟩
theorem codesLeast_any (V : Int) (n : Nat) (hn : n ≤ 100000000) (x : Array Value) (w : World) : Calls Tryz.prog 304 #[.agg x, .int .i64 V, .int .i64 (n : Int)] w fun e w' => e = .returned (.int .i64 ((if n = 0 then 0 else (260 + n + 7) / 8 : Nat) : Int)) ∧ Below w.heap.size w w' := by
  by_cases h0 : n = 0
  · subst h0
    rw [if_pos rfl]
    go_enter Tryz.func304, Tryz.ntmps304
    go_wp2
    go_ret
    exact ⟨rfl, (Below.refl _ _).alloc (Nat.le_refl _) _⟩
  · rw [if_neg h0]
    have h1 : ((n : Int) == 0) = false := by rw [beq_eq_false_iff_ne]; omega
    have C := filled_any (260 + n) (by omega)
    obtain ⟨N, hN⟩ : ∃ N : Int, N = ((260 + n : Nat) : Int) := ⟨_, rfl⟩
    obtain ⟨M, hM⟩ : ∃ M : Int, M = (((260 + n + 7) / 8 : Nat) : Int) := ⟨_, rfl⟩
    have hN2 : 260 + (n : Int) = N := by omega
    rw [← hN, ← hM] at C
    rw [← hM]
    have CF := Lib.hid C
    have HN := Lib.hid hN2
    have h2 : (n : Int) ≤ 100000000 := by omega
    clear h0 C hN hM hn hN2
    go_enter Tryz.func304, Tryz.ntmps304
    go_wp2_with fail
    rw [HN.out]
    refine (CF.out _).mono ?_
    rintro e w1 ⟨rfl, rfl⟩
    go_wp2
    go_ret
    exact ⟨rfl, (Below.refl _ _).alloc (Nat.le_refl _) _⟩
theorem words_vals {V n : Nat} (hn : n ≤ 100000000) (hV : 1 ≤ V ∧ V ≤ 8) : ∃ q m m8 s : Nat, (n : Int) / (V : Int) = (q : Int) ∧ (n : Int).tdiv (V : Int) = (q : Int) ∧ (n : Int) % (V : Int) = (m : Int) ∧ (n : Int).tmod (V : Int) = (m : Int) ∧ IntKind.i64.wrap (q : Int) = (q : Int) ∧ IntKind.i64.wrap (m : Int) = (m : Int) ∧ IntKind.i64.wrap ((m : Int) * 8) = (m8 : Int) ∧ IntKind.i64.wrap ((q : Int) + (m8 : Int)) = (s : Int) ∧ s = n / V + n % V * 8 ∧ s ≤ 1000000000 := by
  have h1 : n / V ≤ n := Nat.div_le_self _ _
  have h2 : n % V < V := Nat.mod_lt _ (by omega)
  have e1 : (n : Int) / (V : Int) = ((n / V : Nat) : Int) := (Int.natCast_ediv _ _).symm
  have e2 : (n : Int) % (V : Int) = ((n % V : Nat) : Int) := (Int.natCast_emod _ _).symm
  obtain ⟨q, hq⟩ : ∃ q, q = n / V := ⟨_, rfl⟩
  obtain ⟨m, hm⟩ : ∃ m, m = n % V := ⟨_, rfl⟩
  rw [← hq] at h1 e1 ⊢
  rw [← hm] at h2 e2 ⊢
  refine ⟨q, m, m * 8, q + m * 8, e1, ?_, e2, ?_, ?_, ?_, ?_, ?_, rfl, by omega⟩
  · rw [Int.tdiv_eq_ediv_of_nonneg (by omega)]; exact e1
  · rw [Int.tmod_eq_emod_of_nonneg (by omega)]; exact e2
  · rw [IntKind.wrap_i64]; omega
  · rw [IntKind.wrap_i64]; omega
  · rw [IntKind.wrap_i64]; omega
  · rw [IntKind.wrap_i64]; omega
set_option maxRecDepth 100000 in
set_option maxHeartbeats 1000000 in
theorem wordsLeast_any {V : Nat} (hV : IsW V) (n : Nat) (hn : n ≤ 100000000) (w : World) : Calls Tryz.prog 277 #[.agg #[], .int .i64 (V : Int), .int .i64 (n : Int)] w fun e w' => e = .returned (.int .i64 (((n / V + n % V * 8 + 7) / 8 : Nat) : Int)) ∧ Below w.heap.size w w' := by
  have hp := hV.pos
  obtain ⟨q, m, m8, s, d1, d2, d3, d4, d5, d6, d7, d8, d9, d10⟩ := words_vals hn hp
  have CF := Lib.hid (filled_any s d10)
  obtain ⟨M, hM⟩ : ∃ M : Int, M = (((s + 7) / 8 : Nat) : Int) := ⟨_, rfl⟩
  rw [← d9, ← hM]
  rw [← hM] at CF
  have hV0 : ¬ ((V : Int) = 0) := by omega
  have HD := Lib.hid (And.intro d1 (And.intro d2 (And.intro d3 (And.intro d4 (And.intro d5 (And.intro d6 (And.intro d7 d8)))))))
  clear hV hp d9 d10 hM d1 d2 d3 d4 d5 d6 d7 d8 hn
  go_enter Tryz.func277, Tryz.ntmps277
  go_wp2
  obtain ⟨d1, d2, d3, d4, d5, d6, d7, d8⟩ := HD.out
  go_quiet ((go_at_call 280; exact quietOf fun W _ => CF.out W))
  go_wp2
  go_ret
  exact ⟨rfl, below_drewn ((Below.refl _ _).alloc (Nat.le_refl _) _)⟩
end Go.Proofs.YtflcmmeoppdhdaaGreat
