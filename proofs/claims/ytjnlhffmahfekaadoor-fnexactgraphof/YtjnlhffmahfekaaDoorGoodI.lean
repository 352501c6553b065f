/- The program's tests on a flat step: its deed, whether the deed's names fit, and the deed's own flat step. -/
import Derived.Test.YtjnlhffmahfekaaDoorFlow1
import Derived.Deep.RegionHeld
namespace Go.Proofs.YtjnlhffmahfekaaDoor
open Go.RowKit
set_option linter.unusedVariables false
set_option linter.unusedSimpArgs false
set_option maxRecDepth 100000

theorem isWord_any (n : Int) (w : World) : Calls Tryd.prog 75 #[.int .i64 n] w fun e w' => e = .returned (.bool (inB 0 65535 n)) ∧ w' = w := by
  rw [← inB_and]
  by_cases h0 : 0 ≤ n
  all_goals
    go_enter Tryd.func75, Tryd.ntmps75
    go_wp2
    go_ret
    exact ⟨ret_bool (by first | (simp [h0]; done) | (simp; omega)), rfl⟩
theorem isPairOp_any (n : Int) (w : World) : Calls Tryd.prog 76 #[.int .i64 n] w fun e w' => e = .returned (.bool (inB 4 9 n)) ∧ w' = w := by
  rw [← inB_and]
  by_cases h0 : 4 ≤ n
  all_goals
    go_enter Tryd.func76, Tryd.ntmps76
    go_wp2
    go_ret
    exact ⟨ret_bool (by first | (simp [h0]; done) | (simp; omega)), rfl⟩
/-- all numbers lie below a limit -/
def belB (m : Int) (k : Int) : Bool := inB 0 (m - 1) k
def allBel (m : Int) (t : List Int) : Bool := t.all (belB m)
theorem below1_any (bx : Nat) (n m : Int) (w : World) (hc : w.cell? ⟨bx, 0, none⟩ = some (.int .i64 m)) :
    Calls Tryd.prog 58 #[.int .i64 n, .pointer (some ⟨bx, 0, none⟩)] w fun e w' => e = .returned (.bool (!belB m n)) ∧ w' = w := by
  by_cases h0 : n < 0
  all_goals
    go_enter Tryd.func58, Tryd.ntmps58
    go_wp2
    go_ret
    exact ⟨ret_bool (by rw [Bool.eq_iff_iff]; simp [belB, inB]; omega), rfl⟩
/-- the library's IndexFunc, with that closure -/
theorem indexI_any (a : Option Addr) (c : Nat) (t : List Int) (bx : Nat) (m : Int) (w : World) (hl : t.length ≤ 9223372036854775807) (h : Row w a t) (hc : w.cell? ⟨bx, 0, none⟩ = some (.int .i64 m)) :
    Calls Tryd.prog 74 #[.slice a t.length c, .func (.func 58) #[] #[.pointer (some ⟨bx, 0, none⟩)]] w fun e w' => (∃ r : Int, e = .returned (.int .i64 r) ∧ decide (0 ≤ r) = !allBel m t) ∧ w' = w := by
  have H := hid h
  clear h
  go_enter Tryd.func74, Tryd.ntmps74
  go_wp2
  go_loop [8] (fun t8 => ∃ (k : Nat), t8 = .int .i64 k ∧ k ≤ t.length ∧ (∀ j v, j < k → t[j]? = some v → belB m v = true)) (fun t8 => t.length - (intOf t8).toNat)
  case atStart => exact ⟨0, rfl, by omega, by intro j x hj; omega⟩
  case round =>
    obtain ⟨k, rfl, hk, hbf⟩ := hrel
    have HF := hid hbf
    clear hbf
    by_cases hlt : k < t.length
    · have hx : t ≠ [] := by intro e; subst e; simp at hlt
      obtain ⟨b, off, rfl, hbw, hat⟩ := H.out.at hx
      obtain ⟨v, c1, HX⟩ := hat w (Below.refl _ _) k hlt
      clear hat hx
      have hcl := below1_any bx v m w hc
      cases hv : belB m v with
      | false =>
        rw [hv] at hcl
        have HC := hid hcl
        have HI : Hid (allBel m t = false) := all_bad HX.out hv
        clear hcl hv
        go_wp2_with (go_at_call 58; refine HC.out.mono ?_; rintro e w1 ⟨rfl, hw⟩; subst w1)
        go_ret
        exact ⟨⟨_, rfl, by rw [HI.out]; simp⟩, rfl⟩
      | true =>
        rw [hv] at hcl
        have HC := hid hcl
        have HI : Hid (∀ j v, j < k + 1 → t[j]? = some v → belB m v = true) := by
          intro j u hj hu
          by_cases e : j = k
          · subst e; rw [HX.out] at hu; cases hu; exact hv
          · exact HF.out j u (by omega) hu
        clear hcl hv
        go_wp2_with (go_at_call 58; refine HC.out.mono ?_; rintro e w1 ⟨rfl, hw⟩; subst w1)
        go_round
        case rel => exact ⟨k + 1, by go_num, by omega, HI.out⟩
        case measure => simp [intOf]; omega
    · obtain rfl : k = t.length := by omega
      have HI : Hid (allBel m t = true) := all_of (fun j v hv => HF.out j v (List.getElem?_eq_some_iff.1 hv).1 hv)
      go_wp2
      go_ret
      exact ⟨⟨_, rfl, by rw [HI.out]; rfl⟩, rfl⟩
theorem containsI_any (a : Option Addr) (c : Nat) (t : List Int) (bx : Nat) (m : Int) (w : World) (hl : t.length ≤ 9223372036854775807) (h : Row w a t) (hc : w.cell? ⟨bx, 0, none⟩ = some (.int .i64 m)) :
    Calls Tryd.prog 57 #[.slice a t.length c, .func (.func 58) #[] #[.pointer (some ⟨bx, 0, none⟩)]] w fun e w' => e = .returned (.bool (!allBel m t)) ∧ w' = w := by
  have H := hid (And.intro h hc)
  clear h hc
  go_enter Tryd.func57, Tryd.ntmps57
  go_wp2_with fail
  refine (indexI_any a c t bx m _ hl H.out.1 H.out.2).mono ?_
  rintro e w1 ⟨⟨r, rfl, hr⟩, hw⟩
  subst w1
  have HR := hid hr
  clear hr
  go_wp2
  go_ret
  exact ⟨ret_bool HR.out, rfl⟩
theorem areBelow_any (a : Option Addr) (c : Nat) (t : List Int) (m : Int) (w : World) (hl : t.length ≤ 9223372036854775807) (h : Row w a t) :
    Calls Tryd.prog 41 #[.int .i64 m, .slice a t.length c] w fun e w' => e = .returned (.bool (allBel m t)) ∧ Below w.heap.size w w' := by
  have H := hid h
  clear h
  go_enter Tryd.func41, Tryd.ntmps41
  go_wp2_with fail
  refine (containsI_any a c t w.heap.size m _ hl (H.out.below (below1 w _)) (by simp [go_sem])).mono ?_
  rintro e w1 ⟨rfl, hw⟩
  subst w1
  go_wp2
  go_ret
  exact ⟨ret_bool (by simp), below1 w _⟩
theorem row_new1 (w : World) (x : Int) (t : TypeId) : Row (w.alloc (.cells #[.int .i64 x] t)) (some ⟨w.heap.size, 0, none⟩) [x] := by
  refine .inr ⟨_, _, rfl, fun i hi => ?_⟩
  match i, hi with
  | 0, _ => simp [go_sem]
theorem row_new2 (w : World) (x y : Int) (t : TypeId) : Row (w.alloc (.cells #[.int .i64 x, .int .i64 y] t)) (some ⟨w.heap.size, 0, none⟩) [x, y] := by
  refine .inr ⟨_, _, rfl, fun i hi => ?_⟩
  match i, hi with
  | 0, _ => simp [go_sem]
  | 1, _ => simp [go_sem]
theorem row_new3 (w : World) (x y z : Int) (t : TypeId) : Row (w.alloc (.cells #[.int .i64 x, .int .i64 y, .int .i64 z] t)) (some ⟨w.heap.size, 0, none⟩) [x, y, z] := by
  refine .inr ⟨_, _, rfl, fun i hi => ?_⟩
  match i, hi with
  | 0, _ => simp [go_sem]
  | 1, _ => simp [go_sem]
  | 2, _ => simp [go_sem]
theorem are1 (x : Int) (w : World) (t : TypeId) (nb : Nat) (hnb : w.heap.size = nb) : Calls Tryd.prog 41 #[.int .i64 12, .slice (some ⟨nb, 0, none⟩) 1 1] (w.alloc (.cells #[.int .i64 x] t)) fun e w' => e = .returned (.bool (nameB x)) ∧ Below w.heap.size w w' := by
  subst hnb
  refine (areBelow_any _ 1 [x] 12 _ (by simp) (row_new1 w x t)).mono ?_
  rintro e w' ⟨rfl, hb⟩
  exact ⟨ret_bool (by simp [allBel, belB, nameB]), bstep' (below1 w _) hb⟩
theorem are2 (x y : Int) (w : World) (t : TypeId) (nb : Nat) (hnb : w.heap.size = nb) : Calls Tryd.prog 41 #[.int .i64 12, .slice (some ⟨nb, 0, none⟩) 2 2] (w.alloc (.cells #[.int .i64 x, .int .i64 y] t)) fun e w' => e = .returned (.bool (nameB x && nameB y)) ∧ Below w.heap.size w w' := by
  subst hnb
  refine (areBelow_any _ 2 [x, y] 12 _ (by simp) (row_new2 w x y t)).mono ?_
  rintro e w' ⟨rfl, hb⟩
  exact ⟨ret_bool (by simp [allBel, belB, nameB]), bstep' (below1 w _) hb⟩
theorem are3 (x y z : Int) (w : World) (t : TypeId) (nb : Nat) (hnb : w.heap.size = nb) : Calls Tryd.prog 41 #[.int .i64 12, .slice (some ⟨nb, 0, none⟩) 3 3] (w.alloc (.cells #[.int .i64 x, .int .i64 y, .int .i64 z] t)) fun e w' => e = .returned (.bool (nameB x && (nameB y && nameB z))) ∧ Below w.heap.size w w' := by
  subst hnb
  refine (areBelow_any _ 3 [x, y, z] 12 _ (by simp) (row_new3 w x y z t)).mono ?_
  rintro e w' ⟨rfl, hb⟩
  exact ⟨ret_bool (by simp [allBel, belB, nameB]), bstep' (below1 w _) hb⟩

/-- what a look at a deed's kind tells -/
theorem ta_131_131 (v : Value) (w : World) : (Instr.typeAssert (.iface 111 v) 92 111 true).run Tryd.prog w = .ok (.tuple #[v, .bool true]) w := by kernel_rfl
theorem ta_133_131 (v : Value) (w : World) : (Instr.typeAssert (.iface 113 v) 92 111 true).run Tryd.prog w = .ok (.tuple #[.agg #[.int .i64 0, .int .i64 0], .bool false]) w := by kernel_rfl
theorem ta_133_133 (v : Value) (w : World) : (Instr.typeAssert (.iface 113 v) 92 113 true).run Tryd.prog w = .ok (.tuple #[v, .bool true]) w := by kernel_rfl
theorem ta_135_131 (v : Value) (w : World) : (Instr.typeAssert (.iface 115 v) 92 111 true).run Tryd.prog w = .ok (.tuple #[.agg #[.int .i64 0, .int .i64 0], .bool false]) w := by kernel_rfl
theorem ta_135_133 (v : Value) (w : World) : (Instr.typeAssert (.iface 115 v) 92 113 true).run Tryd.prog w = .ok (.tuple #[.agg #[.int .i64 0, .int .i64 0], .bool false]) w := by kernel_rfl
theorem ta_135_135 (v : Value) (w : World) : (Instr.typeAssert (.iface 115 v) 92 115 true).run Tryd.prog w = .ok (.tuple #[v, .bool true]) w := by kernel_rfl
theorem ta_136_131 (v : Value) (w : World) : (Instr.typeAssert (.iface 116 v) 92 111 true).run Tryd.prog w = .ok (.tuple #[.agg #[.int .i64 0, .int .i64 0], .bool false]) w := by kernel_rfl
theorem ta_136_133 (v : Value) (w : World) : (Instr.typeAssert (.iface 116 v) 92 113 true).run Tryd.prog w = .ok (.tuple #[.agg #[.int .i64 0, .int .i64 0], .bool false]) w := by kernel_rfl
theorem ta_136_135 (v : Value) (w : World) : (Instr.typeAssert (.iface 116 v) 92 115 true).run Tryd.prog w = .ok (.tuple #[.agg #[.int .i64 0, .int .i64 0, .int .i64 0, .int .i64 0], .bool false]) w := by kernel_rfl
theorem ta_136_136 (v : Value) (w : World) : (Instr.typeAssert (.iface 116 v) 92 116 true).run Tryd.prog w = .ok (.tuple #[v, .bool true]) w := by kernel_rfl
theorem ta_138_131 (v : Value) (w : World) : (Instr.typeAssert (.iface 118 v) 92 111 true).run Tryd.prog w = .ok (.tuple #[.agg #[.int .i64 0, .int .i64 0], .bool false]) w := by kernel_rfl
theorem ta_138_133 (v : Value) (w : World) : (Instr.typeAssert (.iface 118 v) 92 113 true).run Tryd.prog w = .ok (.tuple #[.agg #[.int .i64 0, .int .i64 0], .bool false]) w := by kernel_rfl
theorem ta_138_135 (v : Value) (w : World) : (Instr.typeAssert (.iface 118 v) 92 115 true).run Tryd.prog w = .ok (.tuple #[.agg #[.int .i64 0, .int .i64 0, .int .i64 0, .int .i64 0], .bool false]) w := by kernel_rfl
theorem ta_138_136 (v : Value) (w : World) : (Instr.typeAssert (.iface 118 v) 92 116 true).run Tryd.prog w = .ok (.tuple #[.agg #[.int .i64 0, .int .i64 0], .bool false]) w := by kernel_rfl
theorem ta_138_138 (v : Value) (w : World) : (Instr.typeAssert (.iface 118 v) 92 118 true).run Tryd.prog w = .ok (.tuple #[v, .bool true]) w := by kernel_rfl
theorem ta_140_131 (v : Value) (w : World) : (Instr.typeAssert (.iface 120 v) 92 111 true).run Tryd.prog w = .ok (.tuple #[.agg #[.int .i64 0, .int .i64 0], .bool false]) w := by kernel_rfl
theorem ta_140_133 (v : Value) (w : World) : (Instr.typeAssert (.iface 120 v) 92 113 true).run Tryd.prog w = .ok (.tuple #[.agg #[.int .i64 0, .int .i64 0], .bool false]) w := by kernel_rfl
theorem ta_140_135 (v : Value) (w : World) : (Instr.typeAssert (.iface 120 v) 92 115 true).run Tryd.prog w = .ok (.tuple #[.agg #[.int .i64 0, .int .i64 0, .int .i64 0, .int .i64 0], .bool false]) w := by kernel_rfl
theorem ta_140_136 (v : Value) (w : World) : (Instr.typeAssert (.iface 120 v) 92 116 true).run Tryd.prog w = .ok (.tuple #[.agg #[.int .i64 0, .int .i64 0], .bool false]) w := by kernel_rfl
theorem ta_140_138 (v : Value) (w : World) : (Instr.typeAssert (.iface 120 v) 92 118 true).run Tryd.prog w = .ok (.tuple #[.agg #[.int .i64 0, .int .i64 0], .bool false]) w := by kernel_rfl
theorem ta_140_140 (v : Value) (w : World) : (Instr.typeAssert (.iface 120 v) 92 120 true).run Tryd.prog w = .ok (.tuple #[v, .bool true]) w := by kernel_rfl
theorem ta_nil_131 (w : World) : (Instr.typeAssert .nilIface 92 111 true).run Tryd.prog w = .ok (.tuple #[.agg #[.int .i64 0, .int .i64 0], .bool false]) w := by kernel_rfl
theorem ta_nil_133 (w : World) : (Instr.typeAssert .nilIface 92 113 true).run Tryd.prog w = .ok (.tuple #[.agg #[.int .i64 0, .int .i64 0], .bool false]) w := by kernel_rfl
theorem ta_nil_135 (w : World) : (Instr.typeAssert .nilIface 92 115 true).run Tryd.prog w = .ok (.tuple #[.agg #[.int .i64 0, .int .i64 0, .int .i64 0, .int .i64 0], .bool false]) w := by kernel_rfl
theorem ta_nil_136 (w : World) : (Instr.typeAssert .nilIface 92 116 true).run Tryd.prog w = .ok (.tuple #[.agg #[.int .i64 0, .int .i64 0], .bool false]) w := by kernel_rfl
theorem ta_nil_138 (w : World) : (Instr.typeAssert .nilIface 92 118 true).run Tryd.prog w = .ok (.tuple #[.agg #[.int .i64 0, .int .i64 0], .bool false]) w := by kernel_rfl
theorem ta_nil_140 (w : World) : (Instr.typeAssert .nilIface 92 120 true).run Tryd.prog w = .ok (.tuple #[.agg #[.int .i64 0], .bool false]) w := by kernel_rfl
/-- the value of a deed, and whether its names fit -/
def deedV (x : Flt) : Value :=
  if x.op = 1 then .iface 111 (.agg #[.int .i64 x.dst, .int .i64 x.n])
  else if x.op = 2 then .iface 113 (.agg #[.int .i64 x.dst, .int .i64 x.a])
  else if x.op = 3 then .iface 115 (.agg #[.int .i64 x.d, .int .i64 x.dst, .int .i64 x.a, .int .i64 x.b])
  else if x.op = 4 then .iface 116 (.agg #[.int .i64 x.dst, .int .i64 x.a])
  else if x.op = 5 then .iface 118 (.agg #[.int .i64 x.a, .int .i64 x.b])
  else if x.op = 6 then .iface 120 (.agg #[.int .i64 x.a])
  else .nilIface
theorem deedOf_1 (d t x y n : Int) (w : World) :
    Calls Tryd.prog 61 #[.agg #[.int .i64 1, .int .i64 d, .int .i64 t, .int .i64 x, .int .i64 y, .int .i64 n]] w fun e w' => e = .returned (.iface 111 (.agg #[.int .i64 t, .int .i64 n])) ∧ Below w.heap.size w w' := by
  go_enter Tryd.func61, Tryd.ntmps61
  go_wp2
  go_ret
  exact ⟨rfl, below1 w _⟩
theorem flat_1 (t n : Int) (w : World) :
    Calls Tryd.prog 100 #[.agg #[.int .i64 t, .int .i64 n]] w fun e w' => e = .returned (.agg #[.int .i64 1, .int .i64 0, .int .i64 t, .int .i64 0, .int .i64 0, .int .i64 n]) ∧ Below w.heap.size w w' := by
  go_enter Tryd.func100, Tryd.ntmps100
  go_wp2
  refine bodyPost_ret (v := .agg #[.int .i64 1, .int .i64 0, .int .i64 t, .int .i64 0, .int .i64 0, .int .i64 n]) (by simp [results, Tryd.results100, go_sem, *]) rfl ⟨rfl, ?_⟩
  exact below2 w _ _
set_option maxHeartbeats 1000000 in
theorem fits_1 (t n : Int) (w : World) :
    Calls Tryd.prog 62 #[.iface 111 (.agg #[.int .i64 t, .int .i64 n]), .int .i64 12] w fun e w' => e = .returned (.bool (nameB t && inB 0 65535 n)) ∧ Below w.heap.size w w' := by
  have ta131 := fun v w => ta_131_131 v w
  go_enter Tryd.func62, Tryd.ntmps62
  go_wp2_with fail
  refine (are1 t _ _ _ (by simp)).mono ?_
  rintro e w1 ⟨rfl, hb1⟩
  obtain ⟨hcc, hff⟩ := bcell hb1
  have c1 : w1.cell? ⟨w.heap.size, 1, none⟩ = some (.int .i64 n) := by rw [hcc _ _ (by simp)]; simp [go_sem]
  have HB := hid (bstep' (below1 w _) hb1)
  clear hcc hff hb1
  obtain ⟨u, hu⟩ : ∃ u, nameB t = u := ⟨_, rfl⟩
  rw [hu]
  have HU := hid hu
  clear hu
  cases u
  all_goals
    go_wp2_with (go_at_call 75; refine (isWord_any _ _).mono ?_; rintro e w' ⟨rfl, rfl⟩)
    go_ret
    exact ⟨ret_bool (by simp [HU.out]), HB.out⟩
theorem deedOf_2 (d t x y n : Int) (w : World) :
    Calls Tryd.prog 61 #[.agg #[.int .i64 2, .int .i64 d, .int .i64 t, .int .i64 x, .int .i64 y, .int .i64 n]] w fun e w' => e = .returned (.iface 113 (.agg #[.int .i64 t, .int .i64 x])) ∧ Below w.heap.size w w' := by
  go_enter Tryd.func61, Tryd.ntmps61
  go_wp2
  go_ret
  exact ⟨rfl, below1 w _⟩
theorem flat_2 (t x : Int) (w : World) :
    Calls Tryd.prog 101 #[.agg #[.int .i64 t, .int .i64 x]] w fun e w' => e = .returned (.agg #[.int .i64 2, .int .i64 0, .int .i64 t, .int .i64 x, .int .i64 0, .int .i64 0]) ∧ Below w.heap.size w w' := by
  go_enter Tryd.func101, Tryd.ntmps101
  go_wp2
  refine bodyPost_ret (v := .agg #[.int .i64 2, .int .i64 0, .int .i64 t, .int .i64 x, .int .i64 0, .int .i64 0]) (by simp [results, Tryd.results101, go_sem, *]) rfl ⟨rfl, ?_⟩
  exact below2 w _ _
set_option maxHeartbeats 1000000 in
theorem fits_2 (t x : Int) (w : World) :
    Calls Tryd.prog 62 #[.iface 113 (.agg #[.int .i64 t, .int .i64 x]), .int .i64 12] w fun e w' => e = .returned (.bool (nameB t && nameB x)) ∧ Below w.heap.size w w' := by
  have ta131 := fun v w => ta_133_131 v w
  have ta133 := fun v w => ta_133_133 v w
  go_enter Tryd.func62, Tryd.ntmps62
  go_wp2_with fail
  refine (are2 t x _ _ _ (by simp)).mono ?_
  rintro e w1 ⟨rfl, hb1⟩
  go_wp2
  go_ret
  exact ⟨rfl, bstep' (below1 w _) hb1⟩
theorem deedOf_3 (d t x y n : Int) (w : World) :
    Calls Tryd.prog 61 #[.agg #[.int .i64 3, .int .i64 d, .int .i64 t, .int .i64 x, .int .i64 y, .int .i64 n]] w fun e w' => e = .returned (.iface 115 (.agg #[.int .i64 d, .int .i64 t, .int .i64 x, .int .i64 y])) ∧ Below w.heap.size w w' := by
  go_enter Tryd.func61, Tryd.ntmps61
  go_wp2
  go_ret
  exact ⟨rfl, below1 w _⟩
theorem flat_3 (d t x y : Int) (w : World) :
    Calls Tryd.prog 102 #[.agg #[.int .i64 d, .int .i64 t, .int .i64 x, .int .i64 y]] w fun e w' => e = .returned (.agg #[.int .i64 3, .int .i64 d, .int .i64 t, .int .i64 x, .int .i64 y, .int .i64 0]) ∧ Below w.heap.size w w' := by
  go_enter Tryd.func102, Tryd.ntmps102
  go_wp2
  refine bodyPost_ret (v := .agg #[.int .i64 3, .int .i64 d, .int .i64 t, .int .i64 x, .int .i64 y, .int .i64 0]) (by simp [results, Tryd.results102, go_sem, *]) rfl ⟨rfl, ?_⟩
  exact below2 w _ _
set_option maxHeartbeats 1000000 in
theorem fits_3 (d t x y : Int) (w : World) :
    Calls Tryd.prog 62 #[.iface 115 (.agg #[.int .i64 d, .int .i64 t, .int .i64 x, .int .i64 y]), .int .i64 12] w fun e w' => e = .returned (.bool ((nameB t && (nameB x && nameB y)) && inB 4 9 d)) ∧ Below w.heap.size w w' := by
  have ta131 := fun v w => ta_135_131 v w
  have ta133 := fun v w => ta_135_133 v w
  have ta135 := fun v w => ta_135_135 v w
  go_enter Tryd.func62, Tryd.ntmps62
  go_wp2_with fail
  refine (are3 t x y _ _ _ (by simp)).mono ?_
  rintro e w1 ⟨rfl, hb1⟩
  obtain ⟨hcc, hff⟩ := bcell hb1
  have c1 : w1.cell? ⟨w.heap.size, 0, none⟩ = some (.int .i64 d) := by rw [hcc _ _ (by simp)]; simp [go_sem]
  have HB := hid (bstep' (below1 w _) hb1)
  clear hcc hff hb1
  obtain ⟨u, hu⟩ : ∃ u, (nameB t && (nameB x && nameB y)) = u := ⟨_, rfl⟩
  rw [hu]
  have HU := hid hu
  clear hu
  cases u
  all_goals
    go_wp2_with (go_at_call 76; refine (isPairOp_any _ _).mono ?_; rintro e w' ⟨rfl, rfl⟩)
    go_ret
    exact ⟨ret_bool (by rw [HU.out]; simp), HB.out⟩
theorem deedOf_4 (d t x y n : Int) (w : World) :
    Calls Tryd.prog 61 #[.agg #[.int .i64 4, .int .i64 d, .int .i64 t, .int .i64 x, .int .i64 y, .int .i64 n]] w fun e w' => e = .returned (.iface 116 (.agg #[.int .i64 t, .int .i64 x])) ∧ Below w.heap.size w w' := by
  go_enter Tryd.func61, Tryd.ntmps61
  go_wp2
  go_ret
  exact ⟨rfl, below1 w _⟩
theorem flat_4 (t x : Int) (w : World) :
    Calls Tryd.prog 103 #[.agg #[.int .i64 t, .int .i64 x]] w fun e w' => e = .returned (.agg #[.int .i64 4, .int .i64 0, .int .i64 t, .int .i64 x, .int .i64 0, .int .i64 0]) ∧ Below w.heap.size w w' := by
  go_enter Tryd.func103, Tryd.ntmps103
  go_wp2
  refine bodyPost_ret (v := .agg #[.int .i64 4, .int .i64 0, .int .i64 t, .int .i64 x, .int .i64 0, .int .i64 0]) (by simp [results, Tryd.results103, go_sem, *]) rfl ⟨rfl, ?_⟩
  exact below2 w _ _
set_option maxHeartbeats 1000000 in
theorem fits_4 (t x : Int) (w : World) :
    Calls Tryd.prog 62 #[.iface 116 (.agg #[.int .i64 t, .int .i64 x]), .int .i64 12] w fun e w' => e = .returned (.bool (nameB t && nameB x)) ∧ Below w.heap.size w w' := by
  have ta131 := fun v w => ta_136_131 v w
  have ta133 := fun v w => ta_136_133 v w
  have ta135 := fun v w => ta_136_135 v w
  have ta136 := fun v w => ta_136_136 v w
  go_enter Tryd.func62, Tryd.ntmps62
  go_wp2_with fail
  refine (are2 t x _ _ _ (by simp)).mono ?_
  rintro e w1 ⟨rfl, hb1⟩
  go_wp2
  go_ret
  exact ⟨rfl, bstep' (below1 w _) hb1⟩
theorem deedOf_5 (d t x y n : Int) (w : World) :
    Calls Tryd.prog 61 #[.agg #[.int .i64 5, .int .i64 d, .int .i64 t, .int .i64 x, .int .i64 y, .int .i64 n]] w fun e w' => e = .returned (.iface 118 (.agg #[.int .i64 x, .int .i64 y])) ∧ Below w.heap.size w w' := by
  go_enter Tryd.func61, Tryd.ntmps61
  go_wp2
  go_ret
  exact ⟨rfl, below1 w _⟩
theorem flat_5 (x y : Int) (w : World) :
    Calls Tryd.prog 104 #[.agg #[.int .i64 x, .int .i64 y]] w fun e w' => e = .returned (.agg #[.int .i64 5, .int .i64 0, .int .i64 0, .int .i64 x, .int .i64 y, .int .i64 0]) ∧ Below w.heap.size w w' := by
  go_enter Tryd.func104, Tryd.ntmps104
  go_wp2
  refine bodyPost_ret (v := .agg #[.int .i64 5, .int .i64 0, .int .i64 0, .int .i64 x, .int .i64 y, .int .i64 0]) (by simp [results, Tryd.results104, go_sem, *]) rfl ⟨rfl, ?_⟩
  exact below2 w _ _
set_option maxHeartbeats 1000000 in
theorem fits_5 (x y : Int) (w : World) :
    Calls Tryd.prog 62 #[.iface 118 (.agg #[.int .i64 x, .int .i64 y]), .int .i64 12] w fun e w' => e = .returned (.bool (nameB x && nameB y)) ∧ Below w.heap.size w w' := by
  have ta131 := fun v w => ta_138_131 v w
  have ta133 := fun v w => ta_138_133 v w
  have ta135 := fun v w => ta_138_135 v w
  have ta136 := fun v w => ta_138_136 v w
  have ta138 := fun v w => ta_138_138 v w
  go_enter Tryd.func62, Tryd.ntmps62
  go_wp2_with fail
  refine (are2 x y _ _ _ (by simp)).mono ?_
  rintro e w1 ⟨rfl, hb1⟩
  go_wp2
  go_ret
  exact ⟨rfl, bstep' (below1 w _) hb1⟩
theorem deedOf_6 (d t x y n : Int) (w : World) :
    Calls Tryd.prog 61 #[.agg #[.int .i64 6, .int .i64 d, .int .i64 t, .int .i64 x, .int .i64 y, .int .i64 n]] w fun e w' => e = .returned (.iface 120 (.agg #[.int .i64 x])) ∧ Below w.heap.size w w' := by
  go_enter Tryd.func61, Tryd.ntmps61
  go_wp2
  go_ret
  exact ⟨rfl, below1 w _⟩
theorem flat_6 (x : Int) (w : World) :
    Calls Tryd.prog 105 #[.agg #[.int .i64 x]] w fun e w' => e = .returned (.agg #[.int .i64 6, .int .i64 0, .int .i64 0, .int .i64 x, .int .i64 0, .int .i64 0]) ∧ Below w.heap.size w w' := by
  go_enter Tryd.func105, Tryd.ntmps105
  go_wp2
  refine bodyPost_ret (v := .agg #[.int .i64 6, .int .i64 0, .int .i64 0, .int .i64 x, .int .i64 0, .int .i64 0]) (by simp [results, Tryd.results105, go_sem, *]) rfl ⟨rfl, ?_⟩
  exact below2 w _ _
set_option maxHeartbeats 1000000 in
theorem fits_6 (x : Int) (w : World) :
    Calls Tryd.prog 62 #[.iface 120 (.agg #[.int .i64 x]), .int .i64 12] w fun e w' => e = .returned (.bool (nameB x)) ∧ Below w.heap.size w w' := by
  have ta131 := fun v w => ta_140_131 v w
  have ta133 := fun v w => ta_140_133 v w
  have ta135 := fun v w => ta_140_135 v w
  have ta136 := fun v w => ta_140_136 v w
  have ta138 := fun v w => ta_140_138 v w
  have ta140 := fun v w => ta_140_140 v w
  go_enter Tryd.func62, Tryd.ntmps62
  go_wp2_with fail
  refine (are1 x _ _ _ (by simp)).mono ?_
  rintro e w1 ⟨rfl, hb1⟩
  go_wp2
  go_ret
  exact ⟨rfl, bstep' (below1 w _) hb1⟩
theorem deedOf_0 (p d t x y n : Int) (w : World) (h1 : ¬ p = 1) (h2 : ¬ p = 2) (h3 : ¬ p = 3) (h4 : ¬ p = 4) (h5 : ¬ p = 5) (h6 : ¬ p = 6) :
    Calls Tryd.prog 61 #[.agg #[.int .i64 p, .int .i64 d, .int .i64 t, .int .i64 x, .int .i64 y, .int .i64 n]] w fun e w' => e = .returned .nilIface ∧ Below w.heap.size w w' := by
  go_enter Tryd.func61, Tryd.ntmps61
  go_wp2
  go_ret
  exact ⟨rfl, below1 w _⟩
theorem fits_0 (w : World) : Calls Tryd.prog 62 #[.nilIface, .int .i64 12] w fun e w' => e = .returned (.bool false) ∧ w' = w := by
  have tn131 := fun w => ta_nil_131 w
  have tn133 := fun w => ta_nil_133 w
  have tn135 := fun w => ta_nil_135 w
  have tn136 := fun w => ta_nil_136 w
  have tn138 := fun w => ta_nil_138 w
  have tn140 := fun w => ta_nil_140 w
  go_enter Tryd.func62, Tryd.ntmps62
  go_wp2
  go_ret
  exact ⟨rfl, rfl⟩
end Go.Proofs.YtjnlhffmahfekaaDoor
