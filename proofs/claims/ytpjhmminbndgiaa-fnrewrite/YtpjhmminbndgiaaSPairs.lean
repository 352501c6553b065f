/- What two rules make of texts that both can be used on, as the model makes it. -/
import Derived.Test.YtpjhmminbndgiaaSNorm
namespace Go.Proofs.Ytpjhmminbndgiaa
open Go.RowKit
set_option linter.unusedVariables false
set_option linter.unusedSimpArgs false
set_option maxHeartbeats 4000000
set_option maxRecDepth 100000

/-- a pair of texts, and where it lies -/
structure PV where
  x : Tx
  y : Tx
  v : Value
def pvals (ys : List PV) : List Value := ys.map fun y => y.v
def rowP (y : PV) : OR := ⟨9, 1, y.v, 2, strs [y.x, y.y]⟩
def pprs (ys : List PV) : List (Tx × Tx) := ys.map fun y => (y.x, y.y)
theorem pprs_length (ys : List PV) : (pprs ys).length = ys.length := by simp [pprs]
/-- pairs that were made so far, behind other rows -/
def MadeP (w : World) (B : Nat) (pre : List OR) (ov : Value) (n : Nat) (ys : List PV) : Prop := n = ys.length ∧ Sep w B (pre ++ ⟨32, 1, ov, n, pvals ys⟩ :: ys.map rowP)
theorem MadeP.below {w w' : World} {B n : Nat} {pre : List OR} {ov : Value} {ys : List PV} (h : MadeP w B pre ov n ys) (hb : Below w.heap.size w w') : MadeP w' B pre ov n ys := ⟨h.1, h.2.below hb⟩
theorem info32 : (Try.prog.info? 32).map (fun i => (i.zero, i.size, i.bytes)) = some (some (.slice none 0 0), 1, 24) := by kernel_rfl
theorem eltStrs : Elt 42 32 1 24 := by
  obtain ⟨i0, hi, hz0, hz1, hz2⟩ := info_parts info32
  exact ⟨i0, .slice none 0 0, Try.underlying42, hi, hz0, hz1, hz2, by simp [Value.cells], by omega, by omega⟩
theorem MadeP.nil (w : World) (B : Nat) : MadeP w B [] (.slice none 0 0) 0 [] := ⟨rfl, sep_one (World.ownsRow_nil _ _ _ _)⟩
theorem own_new2 (w : World) (u v : Value) (t : TypeId) : (w.alloc (.cells #[u, v] t)).ownsRow w.heap.size t 1 (.slice (some ⟨w.heap.size, 0, none⟩) 2 2) 2 [u, v] :=
  ⟨rfl, .inr ⟨w.heap.size, 2, #[u, v], rfl, Nat.le_refl _, heap_alloc_new _ _, by omega, by unfold maxLen; omega, by simp, by simp⟩⟩
/-- a pair's texts in a new list, and that in another one, beside what was made -/
theorem MadeP.room {w : World} {B n : Nat} {pre : List OR} {ov : Value} {ys : List PV} (h : MadeP w B pre ov n ys) (hB : B ≤ w.heap.size) (X Y : ByteArray) :
    Sep ((w.alloc (.cells #[.string X, .string Y] 9)).alloc (.cells #[.slice (some ⟨w.heap.size, 0, none⟩) 2 2] 32)) B (pre ++ ⟨32, 1, ov, n, pvals ys⟩ :: (ys ++ [(⟨Bt X, Bt Y, .slice (some ⟨w.heap.size, 0, none⟩) 2 2⟩ : PV)]).map rowP) := by
  refine Sep.below ?_ (below1 _ _)
  have h2 := Sep.append h.2 (below1 w (.cells #[.string X, .string Y] 9)) hB (m := [rowP ⟨Bt X, Bt Y, .slice (some ⟨w.heap.size, 0, none⟩) 2 2⟩]) ⟨fun x hx => by
    simp at hx; subst hx
    have := own_new2 w (.string X) (.string Y) 9
    simp only [rowP, OR.own, strs, List.map_cons, List.map_nil, Sb_Bt]
    exact this, by simp⟩
  simpa using h2
theorem MadeP.grown {w : World} {B n : Nat} {pre : List OR} {va : Option Addr} {vc : Nat} {ys : List PV} {y : PV} (hn : n = ys.length) (h : Sep w B (pre ++ ⟨32, 1, .slice va (n + 1) vc, n + 1, pvals ys ++ [y.v]⟩ :: (ys ++ [y]).map rowP)) : MadeP w B pre (.slice va (n + 1) vc) (n + 1) (ys ++ [y]) := by
  refine ⟨by simp [hn], ?_⟩
  have e : pvals (ys ++ [y]) = pvals ys ++ [y.v] := by simp [pvals]
  rw [e]; exact h
def acrossAt (a b : Rl) (k : Nat) : Option (Tx × Tx) := if b.1.take (k + 1) = a.1.drop (a.1.length - (k + 1)) then some (a.2 ++ b.1.drop (k + 1), a.1.take (a.1.length - (k + 1)) ++ b.2) else none
def acrossTo (a b : Rl) (k : Nat) : List (Tx × Tx) := (List.range k).filterMap (acrossAt a b)
theorem across_eq (a b : Rl) : across a b = acrossTo a b (min a.1.length b.1.length - 1) := rfl
theorem acrossTo_succ (a b : Rl) (k : Nat) : acrossTo a b (k + 1) = acrossTo a b k ++ (acrossAt a b k).toList := by
  unfold acrossTo
  rw [List.range_succ, List.filterMap_append]
  cases h : acrossAt a b k <;> simp [h]
def withinTo (a b : Rl) (k : Nat) : List (Tx × Tx) := (List.range k).filterMap fun k => (useAt b a.1 k).map fun v => (a.2, v)
theorem within_eq (a b : Rl) : within a b = withinTo a b a.1.length := rfl
theorem withinTo_succ (a b : Rl) (k : Nat) : withinTo a b (k + 1) = withinTo a b k ++ ((useAt b a.1 k).map fun v => (a.2, v)).toList := by
  unfold withinTo
  rw [List.range_succ, List.filterMap_append]
  cases h : useAt b a.1 k <;> simp [h]
theorem sl_to (s : ByteArray) (i : Int) (k : Nat) (hi : i = (k : Int)) (hk : k ≤ s.size) (W : World) : (Instr.slice 9 (.string s) none (some (.int .i64 i)) none).run Try.prog W = .ok (.string (s.extract 0 k)) W := by
  subst hi
  rw [run_slice_string_h W 9 s Try.underlying9 .i64 _ (by omega) (by omega), Int.toNat_natCast]
theorem sl_from (s : ByteArray) (i : Int) (k : Nat) (hi : i = (k : Int)) (hk : k ≤ s.size) (W : World) : (Instr.slice 9 (.string s) (some (.int .i64 i)) none none).run Try.prog W = .ok (.string (s.extract k s.size)) W := by
  subst hi
  rw [run_slice_string_l W 9 s Try.underlying9 .i64 _ (by omega) (by omega), Int.toNat_natCast]
theorem sPairs_any (f t g u : ByteArray) (same : Bool) (w : World) (hf : f.size ≤ 6) (ht : t.size ≤ 6) (hg : g.size ≤ 6) (hu : u.size ≤ 6) (hsame : same = true → f = g) :
    Calls Try.prog 71 #[.agg #[.string f, .string t], .agg #[.string g, .string u], .bool same] w fun e w' => (∃ v n ys, e = .returned v ∧ MadeP w' w.heap.size [] v n ys ∧ pprs ys = pairs2 (Bt f, Bt t) (Bt g, Bt u) same ∧ n ≤ 13) ∧ Below w.heap.size w w' := by
  have HSA := hid hsame
  clear hsame
  go_enter Try.func71, Try.ntmps71
  go_wp2
  have b0 := below2 w (.cells #[.string f, .string t] 82) (.cells #[.string g, .string u] 82)
  obtain ⟨W0, hW0⟩ : ∃ W0, (w.alloc (.cells #[.string f, .string t] 82)).alloc (.cells #[.string g, .string u] 82) = W0 := ⟨_, rfl⟩
  obtain ⟨b3, hb3⟩ : ∃ b3, w.heap.size = b3 := ⟨_, rfl⟩
  have HM0 : Hid (MadeP W0 w.heap.size [cellOR 82 2 b3 [.string f, .string t], cellOR 82 2 (b3 + 1) [.string g, .string u]] (.slice none 0 0) 0 []) := by
    refine ⟨rfl, ?_⟩
    rw [← hW0, ← hb3]
    have h1 := cell_own (w := w.alloc (.cells #[.string f, .string t] 82)) (B := w.heap.size) (cs := #[.string f, .string t]) (t := 82) (heap_alloc_new w _) rfl (Nat.le_refl _)
    have h2 : Sep (w.alloc (.cells #[.string f, .string t] 82)) w.heap.size [cellOR 82 2 w.heap.size [.string f, .string t]] := ⟨fun x hx => by simp at hx; subst hx; exact h1, by simp⟩
    have h3 := cell_own (w := (w.alloc (.cells #[.string f, .string t] 82)).alloc (.cells #[.string g, .string u] 82)) (B := w.heap.size + 1) (cs := #[.string g, .string u]) (t := 82) (b := w.heap.size + 1) (by have := heap_alloc_new (w.alloc (.cells #[.string f, .string t] 82)) (.cells #[.string g, .string u] 82); rw [World.size_alloc] at this; exact this) rfl (Nat.le_refl _)
    have h4 := Sep.append h2 (below1 (w.alloc (.cells #[.string f, .string t] 82)) (.cells #[.string g, .string u] 82)) (by simp) (m := [cellOR 82 2 (w.heap.size + 1) [.string g, .string u], ⟨32, 1, .slice none 0 0, 0, []⟩]) ⟨fun x hx => by
      simp only [List.mem_cons, List.mem_nil_iff, or_false] at hx
      rcases hx with rfl | rfl
      · rw [World.size_alloc]; exact h3
      · exact World.ownsRow_nil _ _ _ _, by
      simp [apt, Value.ownBlock]⟩
    simpa [pvals] using h4
  have HB0 : Hid (Below w.heap.size w W0) := by show Below _ _ _; rw [← hW0]; exact b0
  simp only [hW0, hb3]
  clear hW0 b0
  go_loopw [7, 8] (fun t7 t8 wr => ∃ (k n : Nat) (ys : List PV), t8 = .int .i64 ((k : Int) + 1) ∧ k + 1 ≤ 7 ∧ k ≤ min f.size g.size - 1 ∧ n ≤ k ∧ MadeP wr w.heap.size [cellOR 82 2 b3 [.string f, .string t], cellOR 82 2 (b3 + 1) [.string g, .string u]] t7 n ys ∧ pprs ys = acrossTo (Bt f, Bt t) (Bt g, Bt u) k ∧ Below w.heap.size w wr) (fun _ t8 _ => 8 - (intOf t8).toNat)
  case atStart => exact ⟨0, 0, [], rfl, by omega, by omega, by omega, HM0.out, rfl, HB0.out⟩
  case round =>
    obtain ⟨V0, rfl⟩ : ∃ V0, V0 = wr := ⟨_, rfl⟩
    obtain ⟨k, n, ys, rfl, hk7, hkm, hnk, hM, hP, hB⟩ := hrel
    have d0 : V0.cell? ⟨b3, 0, none⟩ = some (.string f) := hM.2.cell (x := cellOR 82 2 b3 [.string f, .string t]) (by simp) rfl (j := 0) rfl
    have d1 : V0.cell? ⟨b3, 1, none⟩ = some (.string t) := hM.2.cell (x := cellOR 82 2 b3 [.string f, .string t]) (by simp) rfl (j := 1) rfl
    have d2 : V0.cell? ⟨b3 + 1, 0, none⟩ = some (.string g) := hM.2.cell (x := cellOR 82 2 (b3 + 1) [.string g, .string u]) (by simp) rfl (j := 0) rfl
    have d3 : V0.cell? ⟨b3 + 1, 1, none⟩ = some (.string u) := hM.2.cell (x := cellOR 82 2 (b3 + 1) [.string g, .string u]) (by simp) rfl (j := 1) rfl
    by_cases hlt : k + 1 < f.size ∧ k + 1 < g.size
    · obtain ⟨hlf, hlg⟩ := hlt
      have hs1 := acrossTo_succ (Bt f, Bt t) (Bt g, Bt u) k
      have hwr : IntKind.i64.wrap ((f.size : Int) - ((k : Int) + 1)) = (f.size : Int) - ((k : Int) + 1) := by rw [IntKind.wrap_i64]; omega
      have hsl1 := sl_from f ((f.size : Int) - ((k : Int) + 1)) (f.size - (k + 1)) (by omega) (by omega)
      have hsl2 := sl_to g ((k : Int) + 1) (k + 1) (by omega) (by omega)
      have hsl3 := sl_from g ((k : Int) + 1) (k + 1) (by omega) (by omega)
      have hsl4 := sl_to f ((f.size : Int) - ((k : Int) + 1)) (f.size - (k + 1)) (by omega) (by omega)
      have hcmp := eq_text (f.extract (f.size - (k + 1)) f.size) (g.extract 0 (k + 1))
      rw [Bt_from, Bt_to] at hcmp
      by_cases hc : (Bt g).take (k + 1) = (Bt f).drop (f.size - (k + 1))
      · rw [hc, decide_eq_true rfl] at hcmp
        have e : acrossAt (Bt f, Bt t) (Bt g, Bt u) k = some (Bt (t ++ g.extract (k + 1) g.size), Bt (f.extract 0 (f.size - (k + 1)) ++ u)) := by
          unfold acrossAt
          simp only []
          rw [← Bt_size, if_pos hc, Bt_append, Bt_append, Bt_from, Bt_to]
        rw [e] at hs1
        simp only [Option.toList_some] at hs1
        have HM := hid hM
        have HP : Hid (acrossTo (Bt f, Bt t) (Bt g, Bt u) (k + 1) = pprs ys ++ [(Bt (t ++ g.extract (k + 1) g.size), Bt (f.extract 0 (f.size - (k + 1)) ++ u))]) := by show _ = _; rw [hs1, hP]
        clear hM hP hs1 e
        go_wp2
        go_quiet (fail)
        go_wp2
        have hbd : Below V0.heap.size V0 (V0.drewN (nq + 1)) := below_drewN (Below.refl _ _) _
        have HSB : Hid (∀ X Y : ByteArray, Sep (((V0.drewN (nq + 1)).alloc (.cells #[.string X, .string Y] 9)).alloc (.cells #[.slice (some ⟨V0.heap.size, 0, none⟩) 2 2] 32)) w.heap.size ([cellOR 82 2 b3 [.string f, .string t], cellOR 82 2 (b3 + 1) [.string g, .string u]] ++ ⟨32, 1, u7, n, pvals ys⟩ :: (ys ++ [(⟨Bt X, Bt Y, .slice (some ⟨V0.heap.size, 0, none⟩) 2 2⟩ : PV)]).map rowP)) := fun X Y => MadeP.room (HM.out.below hbd) (Nat.le_trans hB.size hbd.size) X Y
        have HZ : Hid (∀ X Y : ByteArray, w.heap.size ≤ (((V0.drewN (nq + 1)).alloc (.cells #[.string X, .string Y] 9)).alloc (.cells #[.slice (some ⟨V0.heap.size, 0, none⟩) 2 2] 32)).heap.size ∧ Below V0.heap.size V0 (((V0.drewN (nq + 1)).alloc (.cells #[.string X, .string Y] 9)).alloc (.cells #[.slice (some ⟨V0.heap.size, 0, none⟩) 2 2] 32))) := fun X Y => ⟨Nat.le_trans hB.size ((hbd.alloc hbd.size _).alloc (hbd.alloc hbd.size _).size _).size, (hbd.alloc hbd.size _).alloc (hbd.alloc hbd.size _).size _⟩
        clear hbd
        go_region_held_law (fun W => W.cell? ⟨b3, 0, none⟩ = some (.string f) ∧ W.cell? ⟨b3, 1, none⟩ = some (.string t) ∧ W.cell? ⟨b3 + 1, 0, none⟩ = some (.string g) ∧ W.cell? ⟨b3 + 1, 1, none⟩ = some (.string u)) ((first | exact hc9 | go_keep)) ((first | (refine step_append_sep eltStrs (by rfl) _ _ (by rfl) w.heap.size [cellOR 82 2 b3 [.string f, .string t], cellOR 82 2 (b3 + 1) [.string g, .string u]] (HSB.out (t ++ g.extract (k + 1) g.size) (f.extract 0 (f.size - (k + 1)) ++ u)) (by rfl) (News.one ((V0.drewN (nq + 1)).alloc (.cells #[.string (t ++ g.extract (k + 1) g.size), .string (f.extract 0 (f.size - (k + 1)) ++ u)] 9)) (.slice (some ⟨V0.heap.size, 0, none⟩) 2 2) 32 (V0.heap.size + 1) (by simp) rfl) (by rfl) (by omega) (HZ.out (t ++ g.extract (k + 1) g.size) (f.extract 0 (f.size - (k + 1)) ++ u)).1 ?_; intro va9 vc9 w9 hs9 hb9 hg9; have hc9 := And.intro (hs9.cell (x := cellOR 82 2 b3 [.string f, .string t]) (by simp) rfl (j := 0) rfl) (And.intro (hs9.cell (x := cellOR 82 2 b3 [.string f, .string t]) (by simp) rfl (j := 1) rfl) (And.intro (hs9.cell (x := cellOR 82 2 (b3 + 1) [.string g, .string u]) (by simp) rfl (j := 0) rfl) (hs9.cell (x := cellOR 82 2 (b3 + 1) [.string g, .string u]) (by simp) rfl (j := 1) rfl))); have HS9 := hid hs9; have HB9 := hid hb9; clear hs9 hb9 hg9)))
        all_goals
          have HBT : Hid (Below w.heap.size w w9) := (bstep' hB (HZ.out _ _).2).trans HB9.out
          go_wp2
          go_roundw
          case rel =>
            refine ⟨k + 1, n + 1, _, by go_num, by omega, by omega, by omega, MadeP.grown (y := ⟨Bt (t ++ g.extract (k + 1) g.size), Bt (f.extract 0 (f.size - (k + 1)) ++ u), .slice (some ⟨V0.heap.size, 0, none⟩) 2 2⟩) HM.out.1 HS9.out, ?_, HBT.out⟩
            rw [HP.out]; simp [pprs]
          case measure => simp [intOf]; omega
      · rw [decide_eq_false (fun e => hc e.symm)] at hcmp
        have e : acrossAt (Bt f, Bt t) (Bt g, Bt u) k = none := by
          unfold acrossAt
          simp only []
          rw [← Bt_size, if_neg hc]
        rw [e] at hs1
        simp only [Option.toList_none, List.append_nil] at hs1
        have HM := hid hM
        have HP : Hid (pprs ys = acrossTo (Bt f, Bt t) (Bt g, Bt u) (k + 1)) := by show _ = _; rw [hs1]; exact hP
        clear hM hP hs1 e
        go_wp2
        go_quiet (fail)
        go_wp2
        go_roundw
        case rel => exact ⟨k + 1, n, ys, by go_num, by omega, by omega, by omega, HM.out.below (below_drewN (Below.refl _ _) _), HP.out, below_drewN hB _⟩
        case measure => simp [intOf]; omega
    · have hkm2 : k = min f.size g.size - 1 := by omega
      have HP : Hid (pprs ys = across (Bt f, Bt t) (Bt g, Bt u)) := by
        show _ = _
        rw [hP, across_eq, hkm2]
        simp only [← Bt_size]
      have HM := hid hM
      clear hP hM
      have hn7 : n ≤ 7 := by omega
      have hor : ¬ ((k : Int) + 1 < f.size) ∨ ((k : Int) + 1 < f.size ∧ ¬ (k : Int) + 1 < g.size) := by omega
      clear hlt hkm hkm2 hnk hk7
      rcases hor with hlf | ⟨hlf, hlg⟩
      all_goals
        go_wp2
        go_loopw [7, 9] (fun t7 t9 wr => ∃ (k n : Nat) (ys : List PV), t9 = .int .i64 (k : Int) ∧ k ≤ f.size ∧ n ≤ 7 + k ∧ MadeP wr w.heap.size [cellOR 82 2 b3 [.string f, .string t], cellOR 82 2 (b3 + 1) [.string g, .string u]] t7 n ys ∧ pprs ys = across (Bt f, Bt t) (Bt g, Bt u) ++ (if same = true then [] else withinTo (Bt f, Bt t) (Bt g, Bt u) k) ∧ Below w.heap.size w wr) (fun _ t9 _ => 8 - (intOf t9).toNat)
        case atStart => exact ⟨0, n, ys, rfl, by omega, by omega, HM.out, by rw [HP.out]; simp [withinTo], hB⟩
        case round =>
          clear HM HP hn7 hlf d0 d1 d2 d3
          try clear hlg
          obtain ⟨V1, rfl⟩ : ∃ V1, V1 = wr := ⟨_, rfl⟩
          obtain ⟨k, n, ys, rfl, hkf, hnk, hM, hP, hB⟩ := hrel
          have d0 : V1.cell? ⟨b3, 0, none⟩ = some (.string f) := hM.2.cell (x := cellOR 82 2 b3 [.string f, .string t]) (by simp) rfl (j := 0) rfl
          have d1 : V1.cell? ⟨b3, 1, none⟩ = some (.string t) := hM.2.cell (x := cellOR 82 2 b3 [.string f, .string t]) (by simp) rfl (j := 1) rfl
          have d2 : V1.cell? ⟨b3 + 1, 0, none⟩ = some (.string g) := hM.2.cell (x := cellOR 82 2 (b3 + 1) [.string g, .string u]) (by simp) rfl (j := 0) rfl
          have d3 : V1.cell? ⟨b3 + 1, 1, none⟩ = some (.string u) := hM.2.cell (x := cellOR 82 2 (b3 + 1) [.string g, .string u]) (by simp) rfl (j := 1) rfl
          by_cases hlt : k < f.size
          · have cA := fun W => sAt_any f g k W (by omega) (by omega) hkf
            have hs1 := withinTo_succ (Bt f, Bt t) (Bt g, Bt u) k
            simp only [] at hs1
            cases hp : (Bt g).isPrefixOf ((Bt f).drop k) with
            | false =>
              rw [hp] at cA
              have HA := hid cA
              have HM := hid hM
              rw [show useAt (Bt g, Bt u) (Bt f) k = none from used_no (t := u) hp] at hs1
              simp only [Option.map_none, Option.toList_none, List.append_nil] at hs1
              have HP : Hid (pprs ys = across (Bt f, Bt t) (Bt g, Bt u) ++ (if same = true then [] else withinTo (Bt f, Bt t) (Bt g, Bt u) (k + 1))) := by show _ = _; rw [hs1]; exact hP
              clear cA hM hP hs1 hp
              go_wp2_with (go_at_call 75; refine (HA.out _).mono ?_; rintro e w3 ⟨rfl, hw⟩; subst w3)
              go_roundw
              case rel => exact ⟨k + 1, n, ys, by go_num, by omega, by omega, HM.out, HP.out, hB⟩
              case measure => simp [intOf]; omega
            | true =>
              rw [hp] at cA
              have HA := hid cA
              have HM := hid hM
              cases same with
              | true =>
                obtain rfl := HSA.out rfl
                have HP : Hid (pprs ys = across (Bt f, Bt t) (Bt f, Bt u) ++ (if true = true then [] else withinTo (Bt f, Bt t) (Bt f, Bt u) (k + 1))) := by show _ = _; rw [hP]; simp
                clear cA hM hP hs1 hp
                go_wp2_with (go_at_call 75; refine (HA.out _).mono ?_; rintro e w3 ⟨rfl, hw⟩; subst w3)
                go_roundw
                case rel => exact ⟨k + 1, n, ys, by go_num, by omega, by omega, HM.out, HP.out, hB⟩
                case measure => simp [intOf]; omega
              | false =>
                have hl : g.size ≤ f.size - k := by
                  have := (List.isPrefixOf_iff_prefix.1 hp).length_le
                  rw [List.length_drop, ← Bt_size, ← Bt_size] at this
                  exact this
                rw [show useAt (Bt g, Bt u) (Bt f) k = _ from used_yes (t := u) hp] at hs1
                simp only [Option.map_some, Option.toList_some] at hs1
                have hwr : IntKind.i64.wrap ((k : Int) + (g.size : Int)) = (k : Int) + (g.size : Int) := by rw [IntKind.wrap_i64]; omega
                have hsl1 := sl_to f (k : Int) k rfl (by omega)
                have hsl2 := sl_from f ((k : Int) + (g.size : Int)) (k + g.size) (by omega) (by omega)
                have HP : Hid (across (Bt f, Bt t) (Bt g, Bt u) ++ (if false = true then [] else withinTo (Bt f, Bt t) (Bt g, Bt u) (k + 1)) = pprs ys ++ [(Bt t, Bt (f.extract 0 k ++ u ++ f.extract (k + g.size) f.size))]) := by show _ = _; rw [hs1, hP]; simp
                have hbd : Below V1.heap.size V1 V1.drew := (Below.refl _ _).drew
                have HSB : Hid (∀ X Y : ByteArray, Sep ((V1.drew.alloc (.cells #[.string X, .string Y] 9)).alloc (.cells #[.slice (some ⟨V1.heap.size, 0, none⟩) 2 2] 32)) w.heap.size ([cellOR 82 2 b3 [.string f, .string t], cellOR 82 2 (b3 + 1) [.string g, .string u]] ++ ⟨32, 1, u7, n, pvals ys⟩ :: (ys ++ [(⟨Bt X, Bt Y, .slice (some ⟨V1.heap.size, 0, none⟩) 2 2⟩ : PV)]).map rowP)) := fun X Y => MadeP.room (HM.out.below hbd) (Nat.le_trans hB.size hbd.size) X Y
                have HZ : Hid (∀ X Y : ByteArray, w.heap.size ≤ ((V1.drew.alloc (.cells #[.string X, .string Y] 9)).alloc (.cells #[.slice (some ⟨V1.heap.size, 0, none⟩) 2 2] 32)).heap.size ∧ Below V1.heap.size V1 ((V1.drew.alloc (.cells #[.string X, .string Y] 9)).alloc (.cells #[.slice (some ⟨V1.heap.size, 0, none⟩) 2 2] 32))) := fun X Y => ⟨Nat.le_trans hB.size ((hbd.alloc hbd.size _).alloc (hbd.alloc hbd.size _).size _).size, (hbd.alloc hbd.size _).alloc (hbd.alloc hbd.size _).size _⟩
                clear cA hM hP hs1 hp hbd
                go_wp2_with (go_at_call 75; refine (HA.out _).mono ?_; rintro e w3 ⟨rfl, hw⟩; subst w3)
                go_region_held_law (fun W => W.cell? ⟨b3, 0, none⟩ = some (.string f) ∧ W.cell? ⟨b3, 1, none⟩ = some (.string t) ∧ W.cell? ⟨b3 + 1, 0, none⟩ = some (.string g) ∧ W.cell? ⟨b3 + 1, 1, none⟩ = some (.string u)) ((first | exact hc9 | go_keep)) ((first | (refine step_append_sep eltStrs (by rfl) _ _ (by rfl) w.heap.size [cellOR 82 2 b3 [.string f, .string t], cellOR 82 2 (b3 + 1) [.string g, .string u]] (HSB.out t (f.extract 0 k ++ u ++ f.extract (k + g.size) f.size)) (by rfl) (News.one (V1.drew.alloc (.cells #[.string t, .string (f.extract 0 k ++ u ++ f.extract (k + g.size) f.size)] 9)) (.slice (some ⟨V1.heap.size, 0, none⟩) 2 2) 32 (V1.heap.size + 1) (by simp) rfl) (by rfl) (by omega) (HZ.out t (f.extract 0 k ++ u ++ f.extract (k + g.size) f.size)).1 ?_; intro va9 vc9 w9 hs9 hb9 hg9; have hc9 := And.intro (hs9.cell (x := cellOR 82 2 b3 [.string f, .string t]) (by simp) rfl (j := 0) rfl) (And.intro (hs9.cell (x := cellOR 82 2 b3 [.string f, .string t]) (by simp) rfl (j := 1) rfl) (And.intro (hs9.cell (x := cellOR 82 2 (b3 + 1) [.string g, .string u]) (by simp) rfl (j := 0) rfl) (hs9.cell (x := cellOR 82 2 (b3 + 1) [.string g, .string u]) (by simp) rfl (j := 1) rfl))); have HS9 := hid hs9; have HB9 := hid hb9; clear hs9 hb9 hg9)))
                all_goals
                  have HBT : Hid (Below w.heap.size w w9) := (bstep' hB (HZ.out _ _).2).trans HB9.out
                  go_wp2
                  go_roundw
                  case rel =>
                    refine ⟨k + 1, n + 1, _, by go_num, by omega, by omega, MadeP.grown (y := ⟨Bt t, Bt (f.extract 0 k ++ u ++ f.extract (k + g.size) f.size), .slice (some ⟨V1.heap.size, 0, none⟩) 2 2⟩) HM.out.1 HS9.out, ?_, HBT.out⟩
                    rw [HP.out]; simp [pprs]
                  case measure => simp [intOf]; omega
          · obtain rfl : k = f.size := by omega
            have HP : Hid (pprs ys = pairs2 (Bt f, Bt t) (Bt g, Bt u) same) := by
              show _ = _
              rw [hP]
              unfold pairs2
              rw [within_eq]
              simp only [← Bt_size]
            have HM : Hid (MadeP V1 w.heap.size [] u7 n ys) := ⟨hM.1, hM.2.tail.tail⟩
            clear hP hM
            go_wp2
            go_ret
            exact ⟨⟨_, n, ys, rfl, HM.out, HP.out, by omega⟩, hB⟩
end Go.Proofs.Ytpjhmminbndgiaa
