/- In which loop a loop lies: the program. -/
import Derived.Test.YtiadmmnnbnamjaaGreatRingsIn8
import Derived.Test.YtiadmmnnbnamjaaGreatJ3
import Derived.Deep.RegionHeld
import Derived.Deep.CutRange
import Derived.Deep.DeepCutAuto
namespace Go.Proofs.YtiadmmnnbnamjaaGreat
open Go Go.RowKit
set_option linter.unusedVariables false
set_option linter.unusedSimpArgs false
set_option maxRecDepth 100000

theorem least_step {L : List (Nat × List Nat)} {p : Nat × List Nat → Bool} {k : Nat} {l : Nat × List Nat} (hl : L[k]? = some l) (h : p l = false) : leastTo L p (k + 1) = leastTo L p k := by
  conv => lhs; unfold leastTo
  rw [hl]
  simp [h]
theorem least_new {L : List (Nat × List Nat)} {p : Nat × List Nat → Bool} {k : Nat} {l : Nat × List Nat} (hl : L[k]? = some l) (h : p l = true) (hn : leastTo L p k = none) : leastTo L p (k + 1) = some k := by
  unfold leastTo
  rw [hl, hn]
  simp [h, lessThan]
theorem least_less {L : List (Nat × List Nat)} {p : Nat × List Nat → Bool} {k b : Nat} {l m : Nat × List Nat} (hl : L[k]? = some l) (h : p l = true) (hb : leastTo L p k = some b) (hm : L[b]? = some m) : leastTo L p (k + 1) = if l.2.length < m.2.length then some k else some b := by
  conv => lhs; unfold leastTo
  rw [hl, hb]
  simp only [h, hm, lessThan, Bool.true_and, Option.getD_some]
  by_cases hlt : l.2.length < m.2.length <;> simp [hlt]
theorem meet_all {s t : List Nat} (hs : s.Pairwise (· < ·)) (ht : t.Pairwise (· < ·)) : decide (meetL s t = t) = allIn s t := by
  rw [Bool.eq_iff_iff, decide_eq_true_iff]
  unfold allIn
  rw [List.all_eq_true]
  constructor
  · intro h x hx
    rw [← h] at hx
    exact decide_eq_true (mem_meetL.1 hx).1
  · intro h
    refine rising_unique (meetL_rising hs) ht fun x => ?_
    rw [mem_meetL]
    exact ⟨fun k => k.2, fun k => ⟨of_decide_eq_true (h x k), k⟩⟩
set_option maxHeartbeats 2000000 in
theorem hasAll_any (a b : Option Addr) (c d : Nat) (s t : List Nat) (w : World) (hs : s.length ≤ 1000) (ht : t.length ≤ 1000) (h1 : Row w a (nats s)) (h2 : Row w b (nats t)) (hrs : s.Pairwise (· < ·)) (hrt : t.Pairwise (· < ·)) :
    Calls Tryz.prog 60 #[.agg #[.slice a s.length c], .agg #[.slice b t.length d]] w fun e w' => e = .returned (.bool (allIn s t)) ∧ Below w.heap.size w w' := by
  obtain ⟨A, hA⟩ : ∃ A, (w.alloc (.cells #[.slice a s.length c] 60)).alloc (.cells #[.slice b t.length d] 60) = A := ⟨_, rfl⟩
  have bA : Below w.heap.size w A := by rw [← hA]; exact below2 _ _ _
  have a0 : A.cell? ⟨w.heap.size, 0, none⟩ = some (.slice a s.length c) := by rw [← hA]; exact ((Boxed.new w 60 (.slice a s.length c)).alloc _).cell
  have a1 : A.cell? ⟨w.heap.size + 1, 0, none⟩ = some (.slice b t.length d) := by
    rw [← hA]
    have := Boxed.new (w.alloc (.cells #[.slice a s.length c] 60)) 60 (.slice b t.length d)
    rw [World.size_alloc] at this
    exact this.cell
  have HM := hid (fun W (hb : Below A.heap.size A W) => meet_any a b c d s t W hs ht (h1.below (bstep' bA hb)) (h2.below (bstep' bA hb)) hrt)
  have HE : Hid (∀ W va vc, Below A.heap.size A W → W.ownsRow A.heap.size 3 1 (.slice va (meetL s t).length vc) (meetL s t).length (ints (nats (meetL s t))) → Calls Tryz.prog 75 #[.agg #[.slice va (meetL s t).length vc], .agg #[.slice b t.length d]] W fun e w' => e = .returned (.bool (allIn s t)) ∧ Below W.heap.size W w') := fun W va vc hb ho => by
    have := equals_any va b vc d (meetL s t) t W (by have := meetL_len s t; omega) ht (own_row (xs := nats (meetL s t)) (by rw [nats_length]; exact ho)) (h2.below (bstep' bA hb))
    rw [meet_all hrs hrt] at this
    exact this
  have HK := hid (fun W (hb : Below A.heap.size A W) => And.intro (cell_below a0 hb) (cell_below a1 hb))
  clear h1 h2 hrs hrt
  obtain ⟨R, hR⟩ : ∃ R, allIn s t = R := ⟨_, rfl⟩
  rw [hR] at HE ⊢
  obtain ⟨m, hm⟩ : ∃ m, meetL s t = m := ⟨_, rfl⟩
  rw [hm] at HE HM
  clear hR hm
  go_enter Tryz.func60, Tryz.ntmps60
  go_upto_region 1 with fail
  try rw [hA]
  clear hA
  go_region_held (fun W => W.cell? ⟨w.heap.size, 0, none⟩ = some (.slice a s.length c) ∧ W.cell? ⟨w.heap.size + 1, 0, none⟩ = some (.slice b t.length d)) ((first | exact HK.out _ hb2 | exact HK.out _ hb1 | go_keep)) ((first | (go_at_call 73; refine (HM.out _ (Below.refl _ _).drew).mono ?_; rintro e w1 ⟨va, vc, rfl, ho1, hb1'⟩; have hb1 : Below A.heap.size A w1 := below_of_drew hb1') | (go_at_call 75; refine (HE.out _ va vc hb1 ho1).mono ?_; rintro e w2 ⟨rfl, hb2'⟩; have hb2 := bstep' hb1 hb2')))
  have B2 := bstep' bA hb2
  clear hb1 hb1' hb2 hb2' ho1 HK HE HM
  go_wp2
  go_ret
  exact ⟨rfl, B2⟩
theorem liesB_any (h h0 nb : Nat) (s t : List Nat) (ra ia : Option Addr) (rc ic : Nat) (w : World) (hs : s.length ≤ 1000) (ht : t.length ≤ 1000) (hr : Row w ra (nats s)) (hi : Row w ia (nats t)) (hrs : s.Pairwise (· < ·)) (hrt : t.Pairwise (· < ·)) (hh : h ≤ 1000) (hh0 : h0 ≤ 1000) (hc0 : w.cell? ⟨nb, 0, none⟩ = some (.int .i64 (h0 : Int))) (hc1 : w.cell? ⟨nb, 1, none⟩ = some (.slice ia t.length ic)) :
    Calls Tryz.prog 59 #[.agg #[.int .i64 (h : Int), .slice ra s.length rc], .pointer (some ⟨nb, 0, none⟩)] w fun e w' => e = .returned (.bool (decide (h ≠ h0) && allIn s t)) ∧ Below w.heap.size w w' := by
  have b0 := below1 w (.cells #[.int .i64 (h : Int), .slice ra s.length rc] 62)
  have c0 := cell_below hc0 b0
  have c1 := cell_below hc1 b0
  have HH := hid (hasAll_any ra ia rc ic s t (w.alloc (.cells #[.int .i64 (h : Int), .slice ra s.length rc] 62)) hs ht (hr.below b0) (hi.below b0) hrs hrt)
  clear hr hi hrs hrt hc0 hc1
  by_cases e : h = h0
  · subst e
    go_enter Tryz.func59, Tryz.ntmps59
    go_wp2
    go_ret
    exact ⟨by simp, b0⟩
  · have hne : ¬ (h : Int) = (h0 : Int) := by omega
    have hd : ((h : Int) != (h0 : Int)) = true := by simp [hne]
    rw [decide_eq_true (p := h ≠ h0) e, Bool.true_and]
    go_enter Tryz.func59, Tryz.ntmps59
    go_wp2_with fail
    refine HH.out.mono ?_
    rintro e w1 ⟨rfl, hb1⟩
    have B1 := bstep' b0 hb1
    clear hb1
    go_wp2
    go_ret
    exact ⟨rfl, B1⟩
theorem ringSize_any (h n : Nat) (ra : Option Addr) (rc : Nat) (w : World) :
    Calls Tryz.prog 49 #[.agg #[.int .i64 (h : Int), .slice ra n rc]] w fun e w' => e = .returned (.int .i64 (n : Int)) ∧ Below w.heap.size w w' := by
  have b0 := below1 w (.cells #[.int .i64 (h : Int), .slice ra n rc] 62)
  have HH := hid (size_any ra n rc (w.alloc (.cells #[.int .i64 (h : Int), .slice ra n rc] 62)))
  go_enter Tryz.func49, Tryz.ntmps49
  go_wp2_with fail
  refine HH.out.mono ?_
  rintro e w1 ⟨rfl, hb1⟩
  have B1 := bstep' b0 hb1
  clear hb1
  go_wp2
  go_ret
  exact ⟨rfl, B1⟩
set_option maxHeartbeats 8000000 in
theorem placeOfLeast_any {g D : List (List Nat)} (G : Gr g) (ys : List RV) (hL : Rings g D g.length (loopsR ys)) (i : Nat) (z0 : RV) (hz0 : ys[i]? = some z0) (B nb : Nat) (va ia : Option Addr) (vc ic : Nat) (w : World) (ho : OwnG w B (.slice va ys.length vc) ys) (hc0 : w.cell? ⟨nb, 0, none⟩ = some (.int .i64 (z0.h : Int))) (hc1 : w.cell? ⟨nb, 1, none⟩ = some (.slice ia z0.s.length ic)) (hir : Row w ia (nats z0.s)) :
    Calls Tryz.prog 48 #[.slice va ys.length vc, .func (.func 59) #[] #[.pointer (some ⟨nb, 0, none⟩)], .func (.func 49) #[] #[]] w fun e w' => e = .returned (.int .i64 (upI (leastTo (loopsR ys) (liesIn (loopsR ys) i) ys.length))) ∧ Below w.heap.size w w' := by
  have hgm := G.most
  have hyl : ys.length ≤ 12 := by have := hL.le; rw [loopsR_len] at this; omega
  have hi0 := hL.mem (List.mem_of_getElem? (loopsR_at hz0))
  have hil : z0.s.length ≤ 12 := hi0.2.2.few G (isHead.come G hi0.2.1)
  have hih : z0.h < g.length := hi0.1
  have HO := hid (And.intro ho (And.intro hc0 (And.intro hc1 (And.intro hir hi0.2.2.1))))
  have HLZ := hid (loopsR_at hz0)
  clear ho hc0 hc1 hir hi0 hz0
  go_enter Tryz.func48, Tryz.ntmps48
  go_wp2
  go_loopw [7, 12] (fun t7 t12 wr => ∃ k : Nat, t12 = .int .i64 k ∧ k ≤ ys.length ∧ t7 = .int .i64 (upI (leastTo (loopsR ys) (liesIn (loopsR ys) i) k)) ∧ Below w.heap.size w wr) (fun _ t12 _ => ys.length - (intOf t12).toNat)
  case atStart => exact ⟨0, rfl, by omega, rfl, Below.refl _ _⟩
  case round =>
    obtain ⟨k, rfl, hk, rfl, hB⟩ := hrel
    by_cases hkl : k < ys.length
    · obtain ⟨y, hy⟩ : ∃ y, ys[k]? = some y := ⟨_, List.getElem?_eq_getElem hkl⟩
      obtain ⟨b, ra, rc, rfl, hb1, hb2, c0, c1, ro, hyv⟩ := (HO.out.1.below hB).at hy
      have hib := hL.mem (List.mem_of_getElem? (loopsR_at hy))
      have hyh : y.h < g.length := hib.1
      have hrl : y.s.length ≤ 12 := hib.2.2.few G (isHead.come G hib.2.1)
      have hly := loopsR_at hy
      obtain ⟨A, hA⟩ : ∃ A, wr.alloc (.cells #[.int .i64 (y.h : Int), .slice ra y.s.length rc] 62) = A := ⟨_, rfl⟩
      have bA : Below wr.heap.size wr A := by rw [← hA]; exact below1 _ _
      have a0 : A.cell? ⟨wr.heap.size, 0, none⟩ = some (.int .i64 (y.h : Int)) := by rw [← hA]; simp [go_sem]
      have a1 : A.cell? ⟨wr.heap.size, 1, none⟩ = some (.slice ra y.s.length rc) := by rw [← hA]; simp [go_sem]
      have BA := bstep' hB bA
      have HH := hid (fun W (hb : Below A.heap.size A W) => liesB_any y.h z0.h nb y.s z0.s ra ia rc ic W (by omega) (by omega) (Row.below (Row.below (own_row (c := rc) (by rw [nats_length]; exact ro)) bA) hb) ((HO.out.2.2.2.1.below BA).below hb) hib.2.2.1 HO.out.2.2.2.2 (by omega) (by omega) (cell_below (cell_below HO.out.2.1 BA) hb) (cell_below (cell_below HO.out.2.2.1 BA) hb))
      have hlb : (decide (y.h ≠ z0.h) && allIn y.s z0.s) = liesIn (loopsR ys) i (y.h, y.s) := by unfold liesIn; rw [HLZ.out]
      rw [hlb] at HH
      clear hlb
      have HA0 := hid (fun W (hb : Below A.heap.size A W) => And.intro (cell_below a0 hb) (cell_below a1 hb))
      have HSZ := hid (fun W => ringSize_any y.h y.s.length ra rc W)
      clear ro hyv hib
      obtain ⟨bb, hbb⟩ : ∃ bb : Bool, leastTo (loopsR ys) (liesIn (loopsR ys) i) (k + 1) = if bb = true then some k else leastTo (loopsR ys) (liesIn (loopsR ys) i) k := by
        by_cases h0 : leastTo (loopsR ys) (liesIn (loopsR ys) i) (k + 1) = some k
        · exact ⟨true, by simp [h0]⟩
        · refine ⟨false, ?_⟩
          rw [if_neg (by simp)]
          by_cases hp : liesIn (loopsR ys) i (y.h, y.s) = true
          · cases hn : leastTo (loopsR ys) (liesIn (loopsR ys) i) k with
            | none => exact absurd (least_new hly hp hn) h0
            | some q =>
              obtain ⟨m, hm⟩ : ∃ m, (loopsR ys)[q]? = some m := ⟨_, List.getElem?_eq_getElem (leastTo_lt hn).2⟩
              have := least_less hly hp hn hm
              split at this
              · exact absurd this h0
              · exact this
          · exact least_step hly (by simpa using hp)
      have HBB := hid hbb
      obtain ⟨u, hu⟩ : ∃ u : Int, upI (leastTo (loopsR ys) (liesIn (loopsR ys) i) k) = u := ⟨_, rfl⟩
      rw [hu]
      have HU := hid hu
      clear hu
      go_upto_region 5 with fail
      try rw [hA]
      clear hA
      go_cut [35] from 17 to 35 (fun t35 wx => t35 = .bool bb ∧ Below A.heap.size A wx)
      case first =>
        by_cases hxs : liesIn (loopsR ys) i (y.h, y.s) = true
        · have hp : liesIn (loopsR ys) i (y.h, y.s) = true := hxs
          rw [hxs] at HH
          clear hxs
          cases hn : leastTo (loopsR ys) (liesIn (loopsR ys) i) k with
          | none =>
            have hb : bb = true := by
              have := least_new hly hp hn
              rw [HBB.out, hn] at this
              cases bb
              · simp at this
              · rfl
            have HBE := hid hb
            have hd : decide ((-1 : Int) = -1) = true := by simp
            obtain rfl : u = -1 := by rw [← HU.out, hn]; rfl
            clear hbb hb hn hp hly HU
            refine region_plain (by kernel_rfl) ?_
            obtain ⟨W1, hW1⟩ : ∃ W1, A.drew = W1 := ⟨_, rfl⟩
            rw [hW1]
            have hB0 : Below A.heap.size A W1 := by rw [← hW1]; exact bdr (Below.refl _ A)
            clear hW1
            obtain ⟨k0, l0⟩ := HA0.out _ hB0
            refine wpAny_take (i := 0) (v := ?_) rfl (by kernel_rfl) (by kernel_rfl) (by kernel_rfl) (fun _ _ _ h => h) (Or.inl ⟨by kernel_rfl, ?_⟩) ?_
            rotate_left
            focus (intro w; go_simp; first | done | with_reducible rfl)
            try go_simp
            refine wpAny_ready (rs := [1]) (by kernel_rfl) (by simp) ?_
            refine AllReady.cons rfl (fun K hK => ?_) AllReady.nil
            go_simp
            refine hK _ _ ?_
            try clear hK K
            refine wpAny_ready (rs := [2]) (by kernel_rfl) (by simp) ?_
            refine AllReady.cons rfl (fun K hK => ?_) AllReady.nil
            go_simp
            go_wp2_with (go_at_call 59; refine (HH.out _ hB0).mono ?_; rintro e w2 ⟨rfl, hb2⟩; have hB2 := bstep hB0 hB0.size hb2; obtain ⟨k2, l2⟩ := HA0.out _ hB2)
            try (refine hK _ _ ?_)
            try clear hK K
            refine wpAny_take (i := 3) (v := ?_) rfl (by kernel_rfl) (by kernel_rfl) (by kernel_rfl) (fun _ _ _ h => h) (Or.inl ⟨by kernel_rfl, ?_⟩) ?_
            rotate_left
            focus (intro w; go_simp; first | done | with_reducible rfl)
            try go_simp
            refine wpAny_take (i := 4) (v := ?_) rfl (by kernel_rfl) (by kernel_rfl) (by kernel_rfl) (fun _ _ _ h => h) (Or.inl ⟨by kernel_rfl, ?_⟩) ?_
            rotate_left
            focus (intro w; go_simp; first | done | with_reducible rfl)
            try go_simp
            refine wpAny_take (i := 5) (v := ?_) rfl (by kernel_rfl) (by kernel_rfl) (by kernel_rfl) (fun _ _ _ h => h) (Or.inl ⟨by kernel_rfl, ?_⟩) ?_
            rotate_left
            focus (intro w; go_simp; first | done | with_reducible rfl)
            try go_simp
            refine wpAny_take (i := 6) (v := ?_) rfl (by kernel_rfl) (by kernel_rfl) (by kernel_rfl) (fun _ _ _ h => h) (Or.inl ⟨by kernel_rfl, ?_⟩) ?_
            rotate_left
            focus (intro w; go_simp; first | done | with_reducible rfl)
            try go_simp
            refine wpAny_take (i := 7) (v := undef) rfl (by kernel_rfl) (by kernel_rfl) (by kernel_rfl) (fun _ _ _ h => h) (Or.inr ⟨by kernel_rfl, rfl⟩) ?_
            refine wpAny_take (i := 10) (v := undef) rfl (by kernel_rfl) (by kernel_rfl) (by kernel_rfl) (fun _ _ _ h => h) (Or.inr ⟨by kernel_rfl, rfl⟩) ?_
            refine wpAny_take (i := 11) (v := undef) rfl (by kernel_rfl) (by kernel_rfl) (by kernel_rfl) (fun _ _ _ h => h) (Or.inr ⟨by kernel_rfl, rfl⟩) ?_
            refine wpAny_take (i := 12) (v := undef) rfl (by kernel_rfl) (by kernel_rfl) (by kernel_rfl) (fun _ _ _ h => h) (Or.inr ⟨by kernel_rfl, rfl⟩) ?_
            refine wpAny_take (i := 13) (v := undef) rfl (by kernel_rfl) (by kernel_rfl) (by kernel_rfl) (fun _ _ _ h => h) (Or.inr ⟨by kernel_rfl, rfl⟩) ?_
            refine wpAny_ready (rs := [8, 14]) (by kernel_rfl) (by simp) ?_
            refine AllReady.cons rfl (fun K hK => ?_) ?_
            · go_simp
              refine hK _ _ ?_
              try clear hK K
              refine wpAny_ready (rs := [9, 14]) (by kernel_rfl) (by simp) ?_
              refine AllReady.cons rfl (fun K hK => ?_) ?_
              · go_simp
                refine hK _ _ ?_
                try clear hK K
                refine wpAny_ready (rs := [14]) (by kernel_rfl) (by simp) ?_
                refine AllReady.cons rfl (fun K hK => ?_) AllReady.nil
                go_simp
                refine hK _ _ ?_
                try clear hK K
                refine wpAny_ready (rs := [15]) (by kernel_rfl) (by simp) ?_
                refine AllReady.cons rfl (fun K hK => ?_) AllReady.nil
                go_simp
                refine hK _ _ ?_
                try clear hK K
                refine wpAny_take (i := 16) (v := undef) rfl (by kernel_rfl) (by kernel_rfl) (by kernel_rfl) (fun _ _ _ h => h) (Or.inr ⟨by kernel_rfl, rfl⟩) ?_
                refine wpAny_take (i := 17) (v := ?_) rfl (by kernel_rfl) (by kernel_rfl) (by kernel_rfl) (fun _ _ _ h => h) (Or.inl ⟨by kernel_rfl, ?_⟩) ?_
                rotate_left
                focus (intro w; go_simp; first | done | with_reducible rfl)
                try go_simp
                refine wpAny_take (i := 18) (v := ?_) rfl (by kernel_rfl) (by kernel_rfl) (by kernel_rfl) (fun _ _ _ h => h) (Or.inl ⟨by kernel_rfl, ?_⟩) ?_
                rotate_left
                focus (intro w; go_simp; first | done | with_reducible rfl)
                try go_simp
                refine wpAny_done (by kernel_rfl) ?_ _
                try go_simp
                go_wp2_with fail
                go_meet
                exact ⟨by rw [HBE.out], hB2⟩
              refine AllReady.cons rfl (fun K hK => ?_) ?_
              · go_simp
                refine hK _ _ ?_
                try clear hK K
                refine wpAny_ready (rs := [9]) (by kernel_rfl) (by simp) ?_
                refine AllReady.cons rfl (fun K hK => ?_) AllReady.nil
                go_simp
                refine hK _ _ ?_
                try clear hK K
                refine wpAny_ready (rs := [15]) (by kernel_rfl) (by simp) ?_
                refine AllReady.cons rfl (fun K hK => ?_) AllReady.nil
                go_simp
                refine hK _ _ ?_
                try clear hK K
                refine wpAny_take (i := 16) (v := undef) rfl (by kernel_rfl) (by kernel_rfl) (by kernel_rfl) (fun _ _ _ h => h) (Or.inr ⟨by kernel_rfl, rfl⟩) ?_
                refine wpAny_take (i := 17) (v := ?_) rfl (by kernel_rfl) (by kernel_rfl) (by kernel_rfl) (fun _ _ _ h => h) (Or.inl ⟨by kernel_rfl, ?_⟩) ?_
                rotate_left
                focus (intro w; go_simp; first | done | with_reducible rfl)
                try go_simp
                refine wpAny_take (i := 18) (v := ?_) rfl (by kernel_rfl) (by kernel_rfl) (by kernel_rfl) (fun _ _ _ h => h) (Or.inl ⟨by kernel_rfl, ?_⟩) ?_
                rotate_left
                focus (intro w; go_simp; first | done | with_reducible rfl)
                try go_simp
                refine wpAny_done (by kernel_rfl) ?_ _
                try go_simp
                go_wp2_with fail
                go_meet
                exact ⟨by rw [HBE.out], hB2⟩
              exact AllReady.nil
            refine AllReady.cons rfl (fun K hK => ?_) ?_
            · go_simp
              refine hK _ _ ?_
              try clear hK K
              refine wpAny_ready (rs := [8]) (by kernel_rfl) (by simp) ?_
              refine AllReady.cons rfl (fun K hK => ?_) AllReady.nil
              go_simp
              refine hK _ _ ?_
              try clear hK K
              refine wpAny_ready (rs := [9]) (by kernel_rfl) (by simp) ?_
              refine AllReady.cons rfl (fun K hK => ?_) AllReady.nil
              go_simp
              refine hK _ _ ?_
              try clear hK K
              refine wpAny_ready (rs := [15]) (by kernel_rfl) (by simp) ?_
              refine AllReady.cons rfl (fun K hK => ?_) AllReady.nil
              go_simp
              refine hK _ _ ?_
              try clear hK K
              refine wpAny_take (i := 16) (v := undef) rfl (by kernel_rfl) (by kernel_rfl) (by kernel_rfl) (fun _ _ _ h => h) (Or.inr ⟨by kernel_rfl, rfl⟩) ?_
              refine wpAny_take (i := 17) (v := ?_) rfl (by kernel_rfl) (by kernel_rfl) (by kernel_rfl) (fun _ _ _ h => h) (Or.inl ⟨by kernel_rfl, ?_⟩) ?_
              rotate_left
              focus (intro w; go_simp; first | done | with_reducible rfl)
              try go_simp
              refine wpAny_take (i := 18) (v := ?_) rfl (by kernel_rfl) (by kernel_rfl) (by kernel_rfl) (fun _ _ _ h => h) (Or.inl ⟨by kernel_rfl, ?_⟩) ?_
              rotate_left
              focus (intro w; go_simp; first | done | with_reducible rfl)
              try go_simp
              refine wpAny_done (by kernel_rfl) ?_ _
              try go_simp
              go_wp2_with fail
              go_meet
              exact ⟨by rw [HBE.out], hB2⟩
            exact AllReady.nil
          | some q =>
            have hql := (leastTo_lt hn).2
            rw [loopsR_len] at hql
            obtain ⟨z, hz⟩ : ∃ z, ys[q]? = some z := ⟨_, List.getElem?_eq_getElem hql⟩
            obtain ⟨b', za, zc, e', _, _, z0, z1, zo, hzv⟩ := (HO.out.1.below BA).at hz
            injection e' with e'
            injection e' with e' _
            subst e'
            have hiz := hL.mem (List.mem_of_getElem? (loopsR_at hz))
            have hzl : z.s.length ≤ 12 := hiz.2.2.few G (isHead.come G hiz.2.1)
            have hb : bb = decide (y.s.length < z.s.length) := by
              have h1 := least_less hly hp hn (loopsR_at hz)
              have hqk : q ≠ k := by have := (leastTo_lt hn).1; omega
              rw [HBB.out, hn] at h1
              simp only [] at h1
              cases bb
              · by_cases hlt : y.s.length < z.s.length
                · rw [if_pos hlt] at h1; simp at h1; exact absurd h1 hqk
                · simp [hlt]
              · by_cases hlt : y.s.length < z.s.length
                · simp [hlt]
                · rw [if_neg hlt] at h1; simp at h1; exact absurd h1.symm hqk
            have HBE := hid hb
            have HZ0 := hid (fun W (hb : Below A.heap.size A W) => And.intro (cell_below z0 hb) (cell_below z1 hb))
            have HSZ2 := hid (fun W => ringSize_any z.h z.s.length za zc W)
            have hd : decide ((q : Int) = -1) = false := decide_eq_false (by omega)
            have hq1 : ¬ (q : Int) = -1 := by omega
            obtain rfl : u = (q : Int) := by rw [← HU.out, hn]; rfl
            clear hbb hb hn hp hly hz zo hzv hiz HU
            refine region_plain (by kernel_rfl) ?_
            obtain ⟨W1, hW1⟩ : ∃ W1, A.drew = W1 := ⟨_, rfl⟩
            rw [hW1]
            have hB0 : Below A.heap.size A W1 := by rw [← hW1]; exact bdr (Below.refl _ A)
            clear hW1
            obtain ⟨k0, l0⟩ := HA0.out _ hB0
            refine wpAny_take (i := 0) (v := ?_) rfl (by kernel_rfl) (by kernel_rfl) (by kernel_rfl) (fun _ _ _ h => h) (Or.inl ⟨by kernel_rfl, ?_⟩) ?_
            rotate_left
            focus (intro w; go_simp; first | done | with_reducible rfl)
            try go_simp
            refine wpAny_ready (rs := [1]) (by kernel_rfl) (by simp) ?_
            refine AllReady.cons rfl (fun K hK => ?_) AllReady.nil
            go_simp
            refine hK _ _ ?_
            try clear hK K
            refine wpAny_ready (rs := [2]) (by kernel_rfl) (by simp) ?_
            refine AllReady.cons rfl (fun K hK => ?_) AllReady.nil
            go_simp
            go_wp2_with (go_at_call 59; refine (HH.out _ hB0).mono ?_; rintro e w2 ⟨rfl, hb2⟩; have hB2 := bstep hB0 hB0.size hb2; obtain ⟨k2, l2⟩ := HA0.out _ hB2; obtain ⟨m2, n2⟩ := HZ0.out _ hB2)
            try (refine hK _ _ ?_)
            try clear hK K
            refine wpAny_take (i := 3) (v := ?_) rfl (by kernel_rfl) (by kernel_rfl) (by kernel_rfl) (fun _ _ _ h => h) (Or.inl ⟨by kernel_rfl, ?_⟩) ?_
            rotate_left
            focus (intro w; go_simp; first | done | with_reducible rfl)
            try go_simp
            refine wpAny_take (i := 4) (v := ?_) rfl (by kernel_rfl) (by kernel_rfl) (by kernel_rfl) (fun _ _ _ h => h) (Or.inl ⟨by kernel_rfl, ?_⟩) ?_
            rotate_left
            focus (intro w; go_simp; first | done | with_reducible rfl)
            try go_simp
            refine wpAny_take (i := 5) (v := ?_) rfl (by kernel_rfl) (by kernel_rfl) (by kernel_rfl) (fun _ _ _ h => h) (Or.inl ⟨by kernel_rfl, ?_⟩) ?_
            rotate_left
            focus (intro w; go_simp; first | done | with_reducible rfl)
            try go_simp
            refine wpAny_take (i := 6) (v := ?_) rfl (by kernel_rfl) (by kernel_rfl) (by kernel_rfl) (fun _ _ _ h => h) (Or.inl ⟨by kernel_rfl, ?_⟩) ?_
            rotate_left
            focus (intro w; go_simp; first | done | with_reducible rfl)
            try go_simp
            refine wpAny_take (i := 7) (v := ?_) rfl (by kernel_rfl) (by kernel_rfl) (by kernel_rfl) (fun _ _ _ h => h) (Or.inl ⟨by kernel_rfl, ?_⟩) ?_
            rotate_left
            focus (intro w; go_simp; first | done | with_reducible rfl)
            try go_simp
            refine wpAny_take (i := 10) (v := ?_) rfl (by kernel_rfl) (by kernel_rfl) (by kernel_rfl) (fun _ _ _ h => h) (Or.inl ⟨by kernel_rfl, ?_⟩) ?_
            rotate_left
            focus (intro w; go_simp; first | done | with_reducible rfl)
            try go_simp
            refine wpAny_take (i := 11) (v := ?_) rfl (by kernel_rfl) (by kernel_rfl) (by kernel_rfl) (fun _ _ _ h => h) (Or.inl ⟨by kernel_rfl, ?_⟩) ?_
            rotate_left
            focus (intro w; go_simp; first | done | with_reducible rfl)
            try go_simp
            refine wpAny_take (i := 12) (v := ?_) rfl (by kernel_rfl) (by kernel_rfl) (by kernel_rfl) (fun _ _ _ h => h) (Or.inl ⟨by kernel_rfl, ?_⟩) ?_
            rotate_left
            focus (intro w; go_simp; first | done | with_reducible rfl)
            try go_simp
            refine wpAny_take (i := 13) (v := ?_) rfl (by kernel_rfl) (by kernel_rfl) (by kernel_rfl) (fun _ _ _ h => h) (Or.inl ⟨by kernel_rfl, ?_⟩) ?_
            rotate_left
            focus (intro w; go_simp; first | done | with_reducible rfl)
            try go_simp
            refine wpAny_ready (rs := [8, 14]) (by kernel_rfl) (by simp) ?_
            refine AllReady.cons rfl (fun K hK => ?_) ?_
            · go_simp
              refine hK _ _ ?_
              try clear hK K
              refine wpAny_ready (rs := [9, 14]) (by kernel_rfl) (by simp) ?_
              refine AllReady.cons rfl (fun K hK => ?_) ?_
              · go_simp
                go_wp2_with (go_at_call 49; refine (HSZ.out _).mono ?_; rintro e w3 ⟨rfl, hb3⟩; have hB3 := bstep hB2 hB2.size hb3; obtain ⟨k3, l3⟩ := HA0.out _ hB3; obtain ⟨m3, n3⟩ := HZ0.out _ hB3)
                try (refine hK _ _ ?_)
                try clear hK K
                refine wpAny_ready (rs := [14]) (by kernel_rfl) (by simp) ?_
                refine AllReady.cons rfl (fun K hK => ?_) AllReady.nil
                go_simp
                refine hK _ _ ?_
                try clear hK K
                refine wpAny_ready (rs := [15]) (by kernel_rfl) (by simp) ?_
                refine AllReady.cons rfl (fun K hK => ?_) AllReady.nil
                go_simp
                go_wp2_with (go_at_call 49; refine (HSZ2.out _).mono ?_; rintro e w4 ⟨rfl, hb4⟩; have hB4 := bstep hB3 hB3.size hb4)
                try (refine hK _ _ ?_)
                try clear hK K
                refine wpAny_take (i := 16) (v := ?_) rfl (by kernel_rfl) (by kernel_rfl) (by kernel_rfl) (fun _ _ _ h => h) (Or.inl ⟨by kernel_rfl, ?_⟩) ?_
                rotate_left
                focus (intro w; go_simp; first | done | with_reducible rfl)
                try go_simp
                refine wpAny_take (i := 17) (v := ?_) rfl (by kernel_rfl) (by kernel_rfl) (by kernel_rfl) (fun _ _ _ h => h) (Or.inl ⟨by kernel_rfl, ?_⟩) ?_
                rotate_left
                focus (intro w; go_simp; first | done | with_reducible rfl)
                try go_simp
                refine wpAny_take (i := 18) (v := ?_) rfl (by kernel_rfl) (by kernel_rfl) (by kernel_rfl) (fun _ _ _ h => h) (Or.inl ⟨by kernel_rfl, ?_⟩) ?_
                rotate_left
                focus (intro w; go_simp; first | done | with_reducible rfl)
                try go_simp
                refine wpAny_done (by kernel_rfl) ?_ _
                try go_simp
                go_wp2_with fail
                go_meet
                exact ⟨by rw [HBE.out]; simp, hB4⟩
              refine AllReady.cons rfl (fun K hK => ?_) ?_
              · go_simp
                refine hK _ _ ?_
                try clear hK K
                refine wpAny_ready (rs := [9]) (by kernel_rfl) (by simp) ?_
                refine AllReady.cons rfl (fun K hK => ?_) AllReady.nil
                go_simp
                go_wp2_with (go_at_call 49; refine (HSZ.out _).mono ?_; rintro e w3 ⟨rfl, hb3⟩; have hB3 := bstep hB2 hB2.size hb3; obtain ⟨k3, l3⟩ := HA0.out _ hB3; obtain ⟨m3, n3⟩ := HZ0.out _ hB3)
                try (refine hK _ _ ?_)
                try clear hK K
                refine wpAny_ready (rs := [15]) (by kernel_rfl) (by simp) ?_
                refine AllReady.cons rfl (fun K hK => ?_) AllReady.nil
                go_simp
                go_wp2_with (go_at_call 49; refine (HSZ2.out _).mono ?_; rintro e w4 ⟨rfl, hb4⟩; have hB4 := bstep hB3 hB3.size hb4)
                try (refine hK _ _ ?_)
                try clear hK K
                refine wpAny_take (i := 16) (v := ?_) rfl (by kernel_rfl) (by kernel_rfl) (by kernel_rfl) (fun _ _ _ h => h) (Or.inl ⟨by kernel_rfl, ?_⟩) ?_
                rotate_left
                focus (intro w; go_simp; first | done | with_reducible rfl)
                try go_simp
                refine wpAny_take (i := 17) (v := ?_) rfl (by kernel_rfl) (by kernel_rfl) (by kernel_rfl) (fun _ _ _ h => h) (Or.inl ⟨by kernel_rfl, ?_⟩) ?_
                rotate_left
                focus (intro w; go_simp; first | done | with_reducible rfl)
                try go_simp
                refine wpAny_take (i := 18) (v := ?_) rfl (by kernel_rfl) (by kernel_rfl) (by kernel_rfl) (fun _ _ _ h => h) (Or.inl ⟨by kernel_rfl, ?_⟩) ?_
                rotate_left
                focus (intro w; go_simp; first | done | with_reducible rfl)
                try go_simp
                refine wpAny_done (by kernel_rfl) ?_ _
                try go_simp
                go_wp2_with fail
                go_meet
                exact ⟨by rw [HBE.out]; simp, hB4⟩
              exact AllReady.nil
            refine AllReady.cons rfl (fun K hK => ?_) ?_
            · go_simp
              refine hK _ _ ?_
              try clear hK K
              refine wpAny_ready (rs := [8]) (by kernel_rfl) (by simp) ?_
              refine AllReady.cons rfl (fun K hK => ?_) AllReady.nil
              go_simp
              refine hK _ _ ?_
              try clear hK K
              refine wpAny_ready (rs := [9]) (by kernel_rfl) (by simp) ?_
              refine AllReady.cons rfl (fun K hK => ?_) AllReady.nil
              go_simp
              go_wp2_with (go_at_call 49; refine (HSZ.out _).mono ?_; rintro e w3 ⟨rfl, hb3⟩; have hB3 := bstep hB2 hB2.size hb3; obtain ⟨k3, l3⟩ := HA0.out _ hB3; obtain ⟨m3, n3⟩ := HZ0.out _ hB3)
              try (refine hK _ _ ?_)
              try clear hK K
              refine wpAny_ready (rs := [15]) (by kernel_rfl) (by simp) ?_
              refine AllReady.cons rfl (fun K hK => ?_) AllReady.nil
              go_simp
              go_wp2_with (go_at_call 49; refine (HSZ2.out _).mono ?_; rintro e w4 ⟨rfl, hb4⟩; have hB4 := bstep hB3 hB3.size hb4)
              try (refine hK _ _ ?_)
              try clear hK K
              refine wpAny_take (i := 16) (v := ?_) rfl (by kernel_rfl) (by kernel_rfl) (by kernel_rfl) (fun _ _ _ h => h) (Or.inl ⟨by kernel_rfl, ?_⟩) ?_
              rotate_left
              focus (intro w; go_simp; first | done | with_reducible rfl)
              try go_simp
              refine wpAny_take (i := 17) (v := ?_) rfl (by kernel_rfl) (by kernel_rfl) (by kernel_rfl) (fun _ _ _ h => h) (Or.inl ⟨by kernel_rfl, ?_⟩) ?_
              rotate_left
              focus (intro w; go_simp; first | done | with_reducible rfl)
              try go_simp
              refine wpAny_take (i := 18) (v := ?_) rfl (by kernel_rfl) (by kernel_rfl) (by kernel_rfl) (fun _ _ _ h => h) (Or.inl ⟨by kernel_rfl, ?_⟩) ?_
              rotate_left
              focus (intro w; go_simp; first | done | with_reducible rfl)
              try go_simp
              refine wpAny_done (by kernel_rfl) ?_ _
              try go_simp
              go_wp2_with fail
              go_meet
              exact ⟨by rw [HBE.out]; simp, hB4⟩
            exact AllReady.nil
        · have hp : liesIn (loopsR ys) i (y.h, y.s) = false := by simpa using hxs
          rw [hp] at HH
          clear hxs
          have hb : bb = false := by
            have h1 := least_step hly hp
            rw [HBB.out] at h1
            cases bb
            · rfl
            · rw [if_pos rfl] at h1
              have := (leastTo_lt h1.symm).1
              omega
          have HBE := hid hb
          clear hbb hb hp hly
          refine region_plain (by kernel_rfl) ?_
          obtain ⟨W1, hW1⟩ : ∃ W1, A.drew = W1 := ⟨_, rfl⟩
          rw [hW1]
          have hB0 : Below A.heap.size A W1 := by rw [← hW1]; exact bdr (Below.refl _ A)
          clear hW1
          obtain ⟨k0, l0⟩ := HA0.out _ hB0
          refine wpAny_take (i := 0) (v := ?_) rfl (by kernel_rfl) (by kernel_rfl) (by kernel_rfl) (fun _ _ _ h => h) (Or.inl ⟨by kernel_rfl, ?_⟩) ?_
          rotate_left
          focus (intro w; go_simp; first | done | with_reducible rfl)
          try go_simp
          refine wpAny_ready (rs := [1]) (by kernel_rfl) (by simp) ?_
          refine AllReady.cons rfl (fun K hK => ?_) AllReady.nil
          go_simp
          refine hK _ _ ?_
          try clear hK K
          refine wpAny_ready (rs := [2]) (by kernel_rfl) (by simp) ?_
          refine AllReady.cons rfl (fun K hK => ?_) AllReady.nil
          go_simp
          go_wp2_with (go_at_call 59; refine (HH.out _ hB0).mono ?_; rintro e w2 ⟨rfl, hb2⟩; have hB2 := bstep hB0 hB0.size hb2; obtain ⟨k2, l2⟩ := HA0.out _ hB2)
          try (refine hK _ _ ?_)
          try clear hK K
          refine wpAny_take (i := 3) (v := ?_) rfl (by kernel_rfl) (by kernel_rfl) (by kernel_rfl) (fun _ _ _ h => h) (Or.inl ⟨by kernel_rfl, ?_⟩) ?_
          rotate_left
          focus (intro w; go_simp; first | done | with_reducible rfl)
          try go_simp
          refine wpAny_take (i := 4) (v := undef) rfl (by kernel_rfl) (by kernel_rfl) (by kernel_rfl) (fun _ _ _ h => h) (Or.inr ⟨by kernel_rfl, rfl⟩) ?_
          refine wpAny_take (i := 5) (v := undef) rfl (by kernel_rfl) (by kernel_rfl) (by kernel_rfl) (fun _ _ _ h => h) (Or.inr ⟨by kernel_rfl, rfl⟩) ?_
          refine wpAny_take (i := 6) (v := undef) rfl (by kernel_rfl) (by kernel_rfl) (by kernel_rfl) (fun _ _ _ h => h) (Or.inr ⟨by kernel_rfl, rfl⟩) ?_
          refine wpAny_take (i := 7) (v := undef) rfl (by kernel_rfl) (by kernel_rfl) (by kernel_rfl) (fun _ _ _ h => h) (Or.inr ⟨by kernel_rfl, rfl⟩) ?_
          refine wpAny_take (i := 10) (v := undef) rfl (by kernel_rfl) (by kernel_rfl) (by kernel_rfl) (fun _ _ _ h => h) (Or.inr ⟨by kernel_rfl, rfl⟩) ?_
          refine wpAny_take (i := 11) (v := undef) rfl (by kernel_rfl) (by kernel_rfl) (by kernel_rfl) (fun _ _ _ h => h) (Or.inr ⟨by kernel_rfl, rfl⟩) ?_
          refine wpAny_take (i := 12) (v := undef) rfl (by kernel_rfl) (by kernel_rfl) (by kernel_rfl) (fun _ _ _ h => h) (Or.inr ⟨by kernel_rfl, rfl⟩) ?_
          refine wpAny_take (i := 13) (v := undef) rfl (by kernel_rfl) (by kernel_rfl) (by kernel_rfl) (fun _ _ _ h => h) (Or.inr ⟨by kernel_rfl, rfl⟩) ?_
          refine wpAny_ready (rs := [8, 14]) (by kernel_rfl) (by simp) ?_
          refine AllReady.cons rfl (fun K hK => ?_) ?_
          · go_simp
            refine hK _ _ ?_
            try clear hK K
            refine wpAny_ready (rs := [9, 14]) (by kernel_rfl) (by simp) ?_
            refine AllReady.cons rfl (fun K hK => ?_) ?_
            · go_simp
              refine hK _ _ ?_
              try clear hK K
              refine wpAny_ready (rs := [14]) (by kernel_rfl) (by simp) ?_
              refine AllReady.cons rfl (fun K hK => ?_) AllReady.nil
              go_simp
              refine hK _ _ ?_
              try clear hK K
              refine wpAny_ready (rs := [15]) (by kernel_rfl) (by simp) ?_
              refine AllReady.cons rfl (fun K hK => ?_) AllReady.nil
              go_simp
              refine hK _ _ ?_
              try clear hK K
              refine wpAny_take (i := 16) (v := undef) rfl (by kernel_rfl) (by kernel_rfl) (by kernel_rfl) (fun _ _ _ h => h) (Or.inr ⟨by kernel_rfl, rfl⟩) ?_
              refine wpAny_take (i := 17) (v := undef) rfl (by kernel_rfl) (by kernel_rfl) (by kernel_rfl) (fun _ _ _ h => h) (Or.inr ⟨by kernel_rfl, rfl⟩) ?_
              refine wpAny_take (i := 18) (v := ?_) rfl (by kernel_rfl) (by kernel_rfl) (by kernel_rfl) (fun _ _ _ h => h) (Or.inl ⟨by kernel_rfl, ?_⟩) ?_
              rotate_left
              focus (intro w; go_simp; first | done | with_reducible rfl)
              try go_simp
              refine wpAny_done (by kernel_rfl) ?_ _
              try go_simp
              go_wp2_with fail
              go_meet
              exact ⟨by rw [HBE.out], hB2⟩
            refine AllReady.cons rfl (fun K hK => ?_) ?_
            · go_simp
              refine hK _ _ ?_
              try clear hK K
              refine wpAny_ready (rs := [9]) (by kernel_rfl) (by simp) ?_
              refine AllReady.cons rfl (fun K hK => ?_) AllReady.nil
              go_simp
              refine hK _ _ ?_
              try clear hK K
              refine wpAny_ready (rs := [15]) (by kernel_rfl) (by simp) ?_
              refine AllReady.cons rfl (fun K hK => ?_) AllReady.nil
              go_simp
              refine hK _ _ ?_
              try clear hK K
              refine wpAny_take (i := 16) (v := undef) rfl (by kernel_rfl) (by kernel_rfl) (by kernel_rfl) (fun _ _ _ h => h) (Or.inr ⟨by kernel_rfl, rfl⟩) ?_
              refine wpAny_take (i := 17) (v := undef) rfl (by kernel_rfl) (by kernel_rfl) (by kernel_rfl) (fun _ _ _ h => h) (Or.inr ⟨by kernel_rfl, rfl⟩) ?_
              refine wpAny_take (i := 18) (v := ?_) rfl (by kernel_rfl) (by kernel_rfl) (by kernel_rfl) (fun _ _ _ h => h) (Or.inl ⟨by kernel_rfl, ?_⟩) ?_
              rotate_left
              focus (intro w; go_simp; first | done | with_reducible rfl)
              try go_simp
              refine wpAny_done (by kernel_rfl) ?_ _
              try go_simp
              go_wp2_with fail
              go_meet
              exact ⟨by rw [HBE.out], hB2⟩
            exact AllReady.nil
          refine AllReady.cons rfl (fun K hK => ?_) ?_
          · go_simp
            refine hK _ _ ?_
            try clear hK K
            refine wpAny_ready (rs := [8]) (by kernel_rfl) (by simp) ?_
            refine AllReady.cons rfl (fun K hK => ?_) AllReady.nil
            go_simp
            refine hK _ _ ?_
            try clear hK K
            refine wpAny_ready (rs := [9]) (by kernel_rfl) (by simp) ?_
            refine AllReady.cons rfl (fun K hK => ?_) AllReady.nil
            go_simp
            refine hK _ _ ?_
            try clear hK K
            refine wpAny_ready (rs := [15]) (by kernel_rfl) (by simp) ?_
            refine AllReady.cons rfl (fun K hK => ?_) AllReady.nil
            go_simp
            refine hK _ _ ?_
            try clear hK K
            refine wpAny_take (i := 16) (v := undef) rfl (by kernel_rfl) (by kernel_rfl) (by kernel_rfl) (fun _ _ _ h => h) (Or.inr ⟨by kernel_rfl, rfl⟩) ?_
            refine wpAny_take (i := 17) (v := undef) rfl (by kernel_rfl) (by kernel_rfl) (by kernel_rfl) (fun _ _ _ h => h) (Or.inr ⟨by kernel_rfl, rfl⟩) ?_
            refine wpAny_take (i := 18) (v := ?_) rfl (by kernel_rfl) (by kernel_rfl) (by kernel_rfl) (fun _ _ _ h => h) (Or.inl ⟨by kernel_rfl, ?_⟩) ?_
            rotate_left
            focus (intro w; go_simp; first | done | with_reducible rfl)
            try go_simp
            refine wpAny_done (by kernel_rfl) ?_ _
            try go_simp
            go_wp2_with fail
            go_meet
            exact ⟨by rw [HBE.out], hB2⟩
          exact AllReady.nil
      case rest =>
        obtain ⟨rfl, hbx⟩ := hcut
        have HB2 := hid (bstep' BA hbx)
        clear hbx HH HA0 HSZ BA bA a0 a1
        cases bb with
        | true =>
          go_wp2
          go_roundw
          case rel => exact ⟨k + 1, by go_num, by omega, by rw [HBB.out]; rfl, HB2.out⟩
          case measure => simp [intOf]; omega
        | false =>
          go_wp2
          go_roundw
          case rel => exact ⟨k + 1, by go_num, by omega, by rw [HBB.out, if_neg (by simp), HU.out], HB2.out⟩
          case measure => simp [intOf]; omega
    · obtain rfl : k = ys.length := by omega
      go_wp2
      go_ret
      exact ⟨rfl, hB⟩
theorem upFrom_any {g D : List (List Nat)} (G : Gr g) (ys : List RV) (hL : Rings g D g.length (loopsR ys)) (i : Nat) (z0 : RV) (hz0 : ys[i]? = some z0) (B : Nat) (va ia : Option Addr) (vc ic : Nat) (w : World) (ho : OwnG w B (.slice va ys.length vc) ys) (hir : Row w ia (nats z0.s)) :
    Calls Tryz.prog 29 #[.slice va ys.length vc, .agg #[.int .i64 (z0.h : Int), .slice ia z0.s.length ic]] w fun e w' => e = .returned (.int .i64 (upTo (loopsR ys) i ys.length)) ∧ Below w.heap.size w w' := by
  have b0 := below1 w (.cells #[.int .i64 (z0.h : Int), .slice ia z0.s.length ic] 62)
  have HP := hid (placeOfLeast_any G ys hL i z0 hz0 B w.heap.size va ia vc ic (w.alloc (.cells #[.int .i64 (z0.h : Int), .slice ia z0.s.length ic] 62)) (OwnG.below ho b0) (by simp [go_sem]) (by simp [go_sem]) (hir.below b0))
  clear ho hir
  go_enter Tryz.func29, Tryz.ntmps29
  go_wp2_with fail
  refine HP.out.mono ?_
  rintro e w1 ⟨rfl, hb1⟩
  have B1 := bstep' b0 hb1
  clear hb1
  go_wp2
  go_ret
  exact ⟨rfl, B1⟩
end Go.Proofs.YtiadmmnnbnamjaaGreat
