/- What the model's ReadSteps answers, at every text. -/
import Derived.Test.YtkdabjdobpdooaaDoorRead2
namespace Go.Proofs.YtkdabjdobpdooaaDoor
open Go.RowKit
set_option linter.unusedVariables false
set_option linter.unusedSimpArgs false
set_option maxRecDepth 100000

theorem OwnS.push2 {B : Nat} {wr wp w2 : World} {v tv : Value} {ys : List SV} {x : Stp} {g cap : Nat} (h : OwnS wr B v ys) (hb : Below wr.heap.size wr wp) (hB : B ≤ wr.heap.size) (ht : wp.ownsRow wr.heap.size 3 1 tv x.2.2.length (ints x.2.2))
    (hown : w2.ownsRow B 36 3 (.slice (some ⟨g, 0, none⟩) (ys.length + 1) cap) (ys.length + 1) (flatT ys ++ [.int .i64 x.1, .int .i64 x.2.1, tv])) (hg : wp.grownBy w2 v.ownBlock) (hat : v.ownBlock = some g ∨ g = wp.heap.size) :
    OwnS w2 B (.slice (some ⟨g, 0, none⟩) (ys.length + 1) cap) (ys ++ [(x, tv)]) := by
  have h1 := h.2.snoc hb hB (fun k hk => (h.1.lt k hk).2) x tv ht
  have h2 := h1.kept hg
  refine ⟨?_, ?_, h2.2⟩
  · rw [List.length_append, flatT_append]; exact hown
  · intro y hy
    obtain ⟨k1, k2⟩ := h2.1 y hy
    refine ⟨k1, ?_⟩
    rcases hat with hat | hat
    · rw [hat] at k2; exact k2
    · cases e : y.2.ownBlock with
      | none => exact .inl rfl
      | some j =>
        right
        have := ((h1.1 y hy).1.lt j e).2
        simp [Value.ownBlock]; omega
theorem news_at0 (w : World) (cs : Array Value) (t : TypeId) : ∀ j u, cs.toList[j]? = some u → (w.alloc (.cells cs t)).cell? ((⟨w.heap.size, 0, none⟩ : Addr).add j) = some u := World.news_of_block (t := t) (fr := (0, 0)) (heap_alloc_new w _)

theorem l3HasN_any (op : Int) (w : World) : Calls Tryd.prog 61 #[.int .i64 op] w fun e w' => e = .returned (.bool (hasN op)) ∧ w' = w := by
  by_cases h : op = 1 ∨ op = 2 ∨ op = 3 ∨ op = 20 ∨ op = 21 ∨ op = 22
  · have hh : hasN op = true := by rcases h with rfl | rfl | rfl | rfl | rfl | rfl <;> decide
    rw [hh]
    rcases h with rfl | rfl | rfl | rfl | rfl | rfl
    all_goals
      go_enter Tryd.func61, Tryd.ntmps61
      go_wp2
      go_ret
      exact ⟨rfl, rfl⟩
  · have h1 : ¬ op = 1 := fun e => h (by omega)
    have h2 : ¬ op = 2 := fun e => h (by omega)
    have h3 : ¬ op = 3 := fun e => h (by omega)
    have h20 : ¬ op = 20 := fun e => h (by omega)
    have h21 : ¬ op = 21 := fun e => h (by omega)
    have h22 : ¬ op = 22 := fun e => h (by omega)
    have hh : hasN op = false := by
      have : mostN op = 0 := by unfold mostN; rw [if_neg h1, if_neg (by omega), if_neg (by omega)]
      simp [hasN, this]
    rw [hh]
    clear h hh
    go_enter Tryd.func61, Tryd.ntmps61
    go_wp2
    go_ret
    exact ⟨rfl, rfl⟩

set_option maxHeartbeats 4000000 in
/-- the model's ReadSteps -/
theorem sRead_any (s : ByteArray) (w : World) (hm : s.size ≤ 9223372036854775807) :
    Calls Tryd.prog 24 #[.string s] w fun e w' => readAns w.heap.size w' (readR s) e ∧ Below w.heap.size w w' := by
  obtain ⟨i0, hi, hz0, hz1, hz2⟩ := info_parts info36
  by_cases h400 : s.size ≤ 400
  · go_enter Tryd.func24, Tryd.ntmps24
    go_wp2
    go_loopw [5, 6] (fun t5 t6 wr => ∃ (k : Nat) (v : Value), v = t5 ∧ t6 = .int .i64 k ∧ RL s w wr k v) (fun _ t6 _ => s.size - (intOf t6).toNat)
    case atStart => exact ⟨0, _, rfl, rfl, [], s.size + 1, ⟨World.ownsRow_nil _ _ _ _, OwnT.nil _ _ _⟩, rfl, by omega, by omega, by simp, Below.refl _ _⟩
    case round =>
      obtain ⟨k, v, rfl, rfl, ys, f, hown, hrd, hf, hk, hyl, hB⟩ := hrel
      have HRD : Hid (rdL s (s.size + 1) 0 [] = rdL s f k (ys.map (·.1)) ∧ s.size - k < f) := ⟨hrd, hf⟩
      clear hrd hf
      by_cases hlt : k < s.size
      · obtain ⟨f', hf'⟩ : ∃ f', f = f' + 1 := ⟨f - 1, by have := HRD.out.2; omega⟩
        subst hf'
        have hbe := opAt_eq s k hlt
        obtain ⟨op, hop⟩ : ∃ b, opAt s k = b := ⟨_, rfl⟩
        rw [hop] at hbe
        have HOPA : Hid (opAt s k = op) := hop
        have hb0 : 0 ≤ op ∧ op ≤ 255 := by have := s[k].toNat_lt; omega
        have hwb : wrap64 op = op := by have : wrap64 (s[k].toNat : Int) = s[k].toNat := wrap8 _; rw [hbe] at this; exact this
        obtain ⟨hop0, hop255⟩ := hb0
        clear hop
        have hin := fun w => l1In_any op 1 22 w
        have hio : inB 1 22 op = isOpB op := by rw [← inB_and]; rfl
        rw [hio] at hin
        clear hio
        have hhn := fun w => l3HasN_any op w
        cases h1 : isOpB op with
        | false =>
          rw [h1] at hin
          have HR : Hid (readR s = ([], 2, false)) := readR_bad h400 (by rw [HRD.out.1]; exact rdL_bad hlt (by rw [HOPA.out]; exact rdStep_noop h1))
          clear h1
          go_wp2_with (go_at_call 59; refine (hin _).mono ?_; rintro e' w' ⟨rfl, hw'⟩; subst w')
          go_ret3
          refine ⟨?_, hB.alloc hB.size _⟩
          rw [HR.out]
          exact readAns_nil
        | true =>
          rw [h1] at hin
          by_cases h22 : op = 22
          · subst h22
            have hN : hasN 22 = true := by decide
            rw [hN] at hhn
            have HHN : Hid (∀ w, Calls Tryd.prog 61 #[.int .i64 22] w fun e w' => e = .returned (.bool true) ∧ w' = w) := hhn
            have htv := fun w => sTakeVec_any s ((k + 1 : Nat) : Int) w (by omega)
            have ek : ((k + 1 : Nat) : Int) = (k : Int) + 1 := by omega
            cases hv : vecOf s ((k + 1 : Nat) : Int) with
            | none =>
              have HR : Hid (readR s = ([], 1, false)) := readR_bad h400 (by rw [HRD.out.1]; exact rdL_bad hlt (by rw [HOPA.out, rdStep_tab0 hv]))
              rw [hv, ek] at htv
              have HTV : Hid (∀ w, Calls Tryd.prog 60 #[.string s, .int .i64 ((k : Int) + 1)] w fun e w' => e = .returned (.tuple #[.slice none 0 0, .int .i64 0, .bool false]) ∧ Below w.heap.size w w') := htv
              clear htv ek hv hhn h1
              go_wp2_with (first | (go_at_call 59; refine (hin _).mono ?_; rintro e' w' ⟨rfl, hw'⟩; subst w'))
              refine (HTV.out _).mono ?_
              rintro e' w1 ⟨rfl, hb1⟩
              have HB1 : Hid (Below w.heap.size w w1) := bstep' hB (bstep' (below1 wr _) hb1)
              clear hb1
              go_wp2
              go_ret3
              refine ⟨?_, HB1.out⟩
              rw [HR.out]
              exact readAns_nil
            | some te =>
              obtain ⟨t, e1⟩ := te
              have hva := vec_ahead hv
              have htk := fun w => sTakeU_any s (e1 : Int) w (by omega)
              have hst1 := rdStep_tab1 hv
              rw [hv, ek] at htv
              have HTV : Hid (∀ w, Calls Tryd.prog 60 #[.string s, .int .i64 ((k : Int) + 1)] w fun e w' => (∃ v, e = .returned (.tuple #[v, .int .i64 e1, .bool true]) ∧ w'.ownsRow w.heap.size 3 1 v t.length (ints t)) ∧ Below w.heap.size w w') := htv
              clear htv ek hv hhn h1
              cases hr : resU s (e1 : Int) with
              | none =>
                have HR : Hid (readR s = ([], 1, false)) := readR_bad h400 (by rw [HRD.out.1]; exact rdL_bad hlt (by rw [HOPA.out, hst1, rdN_none hN hr]))
                rw [hr] at htk
                have HTK : Hid (∀ w, Calls Tryd.prog 62 #[.string s, .int .i64 e1] w fun e w' => e = .returned (takeV none) ∧ w' = w) := htk
                clear htk hr hN hst1
                go_wp2_with (first | (go_at_call 59; refine (hin _).mono ?_; rintro e' w' ⟨rfl, hw'⟩; subst w'))
                refine (HTV.out _).mono ?_
                rintro e' w1 ⟨⟨vv, rfl, hot⟩, hb1⟩
                obtain ⟨va, vc, rfl, hrow⟩ := Row.of_owned hot
                obtain ⟨hc, hf⟩ := bcell hb1
                have m0 : w1.cell? ⟨wr.heap.size, 0, none⟩ = some (.int .i64 22) := by rw [hc _ _ (by simp)]; simp [go_sem]
                have g0 : w1.frozen? ⟨wr.heap.size, 0, none⟩ = false := by rw [hf _ _ (by simp)]; simp [go_sem]
                have m1 : w1.cell? ⟨wr.heap.size, 1, none⟩ = some (.int .i64 0) := by rw [hc _ _ (by simp)]; simp [go_sem]
                have g1 : w1.frozen? ⟨wr.heap.size, 1, none⟩ = false := by rw [hf _ _ (by simp)]; simp [go_sem]
                have m2 : w1.cell? ⟨wr.heap.size, 2, none⟩ = some (.slice none 0 0) := by rw [hc _ _ (by simp)]; simp [go_sem]
                have g2 : w1.frozen? ⟨wr.heap.size, 2, none⟩ = false := by rw [hf _ _ (by simp)]; simp [go_sem]
                clear hc hf
                have HB1 : Hid (Below w.heap.size w w1) := bstep' hB (bstep' (below1 wr _) hb1)
                clear hb1 hot hrow
                go_wp2_with (first | (go_at_call 61; refine (HHN.out _).mono ?_; rintro e' w' ⟨rfl, hw'⟩; subst w') | (go_at_call 62; refine (HTK.out _).mono ?_; rintro e' w' ⟨rfl, hw'⟩; subst w'; unfold takeV))
                go_ret3
                refine ⟨?_, HB1.out.setCell (p := ⟨wr.heap.size, 2, none⟩) hB.size _⟩
                rw [HR.out]
                exact readAns_nil
              | some ne =>
                obtain ⟨n, e2⟩ := ne
                have HST : Hid (rdStep s k 22 = .ok n t e2) := by show _ = _; rw [hst1, rdN_some hN hr]
                rw [hr] at htk
                have HTK : Hid (∀ w, Calls Tryd.prog 62 #[.string s, .int .i64 e1] w fun e w' => e = .returned (takeV (some (n, e2))) ∧ w' = w) := htk
                have HO : Hid (OwnS wr w.heap.size v ys) := hown
                obtain ⟨hh1, hh2, hh3, hh4, hh5⟩ := rdStep_ahead HST.out hlt
                clear htk hr hN hst1
                go_wp2_with (first | (go_at_call 59; refine (hin _).mono ?_; rintro e' w' ⟨rfl, hw'⟩; subst w'))
                refine (HTV.out _).mono ?_
                rintro e' w1 ⟨⟨vv, rfl, hot⟩, hb1⟩
                obtain ⟨va, vc, rfl, hrow⟩ := Row.of_owned hot
                obtain ⟨hc, hf⟩ := bcell hb1
                have m0 : w1.cell? ⟨wr.heap.size, 0, none⟩ = some (.int .i64 22) := by rw [hc _ _ (by simp)]; simp [go_sem]
                have g0 : w1.frozen? ⟨wr.heap.size, 0, none⟩ = false := by rw [hf _ _ (by simp)]; simp [go_sem]
                have m1 : w1.cell? ⟨wr.heap.size, 1, none⟩ = some (.int .i64 0) := by rw [hc _ _ (by simp)]; simp [go_sem]
                have g1 : w1.frozen? ⟨wr.heap.size, 1, none⟩ = false := by rw [hf _ _ (by simp)]; simp [go_sem]
                have m2 : w1.cell? ⟨wr.heap.size, 2, none⟩ = some (.slice none 0 0) := by rw [hc _ _ (by simp)]; simp [go_sem]
                have g2 : w1.frozen? ⟨wr.heap.size, 2, none⟩ = false := by rw [hf _ _ (by simp)]; simp [go_sem]
                clear hc hf
                have hlw : wr.heap.size < w1.heap.size := by have := hb1.size; simp at this; omega
                have hbP : Below wr.heap.size wr (((w1.setCell ⟨wr.heap.size, 2, none⟩ (.slice va t.length vc)).setCell ⟨wr.heap.size, 1, none⟩ (.int .i64 n)).alloc (.cells #[.int .i64 22, .int .i64 n, .slice va t.length vc] 36)) := (((bstep' (below1 wr _) hb1).setCell (p := ⟨wr.heap.size, 2, none⟩) (Nat.le_refl _) _).setCell (p := ⟨wr.heap.size, 1, none⟩) (Nat.le_refl _) _).alloc (by simp; omega) _
                have hownP := owns_below hown.1 hbP
                have HTB : Hid ((((w1.setCell ⟨wr.heap.size, 2, none⟩ (.slice va t.length vc)).setCell ⟨wr.heap.size, 1, none⟩ (.int .i64 n)).alloc (.cells #[.int .i64 22, .int .i64 n, .slice va t.length vc] 36)).ownsRow wr.heap.size 3 1 (.slice va t.length vc) t.length (ints t)) := by
                  have h0 : w1.ownsRow (wr.heap.size + 1) 3 1 (.slice va t.length vc) t.length (ints t) := by simp at hot; exact hot
                  exact owns_mono ((ownsRow_setCell_below (ownsRow_setCell_below h0 (by simp) _) (by simp) _).alloc _) (by omega)
                have hnews : ∀ (j : Nat) (u : Value), [Value.int .i64 22, Value.int .i64 n, Value.slice va t.length vc][j]? = some u → (((w1.setCell ⟨wr.heap.size, 2, none⟩ (.slice va t.length vc)).setCell ⟨wr.heap.size, 1, none⟩ (.int .i64 n)).alloc (.cells #[.int .i64 22, .int .i64 n, .slice va t.length vc] 36)).cell? ((⟨w1.heap.size, 0, none⟩ : Addr).add j) = some u := by
                  have h := news_at0 ((w1.setCell ⟨wr.heap.size, 2, none⟩ (.slice va t.length vc)).setCell ⟨wr.heap.size, 1, none⟩ (.int .i64 n)) #[.int .i64 22, .int .i64 n, .slice va t.length vc] 36
                  have hs : ((w1.setCell ⟨wr.heap.size, 2, none⟩ (.slice va t.length vc)).setCell ⟨wr.heap.size, 1, none⟩ (.int .i64 n)).heap.size = w1.heap.size := by simp
                  rw [hs] at h
                  exact h
                have HN : Hid (rdL s (s.size + 1) 0 [] = rdL s f' e2 ((ys ++ [(((22, n, t), Value.slice va t.length vc) : SV)]).map (·.1))) := by
                  show _ = _
                  rw [HRD.out.1, rdL_ok hlt (by rw [HOPA.out]; exact HST.out), List.map_append, HOPA.out]; rfl
                have hBs := hB.size
                clear hb1 hot hrow hown
                go_wp2_with (first | (go_at_call 61; refine (HHN.out _).mono ?_; rintro e' w' ⟨rfl, hw'⟩; subst w') | (go_at_call 62; refine (HTK.out _).mono ?_; rintro e' w' ⟨rfl, hw'⟩; subst w'; unfold takeV) | (at_builtin; refine wpList_append_lies _ rfl _ _ 23 rfl w.heap.size 36 i0 (.agg #[.int .i64 0, .int .i64 0, .slice none 0 0]) 3 40 Tryd.underlying23 hi hz0 hz1 hz2 rfl (by decide) _ _ _ rfl hownP ⟨w1.heap.size, 0, none⟩ 1 1 [.int .i64 22, .int .i64 n, .slice va t.length vc] rfl rfl hnews (by simp [Value.oneCell']) (by decide) (by unfold maxLen; omega) (by omega) (by simp; omega) (w1.heap.size + 1) (by simp) ?_))
                intro g cap w2 hown2 hgrow2 hat2 hlt2
                have HP : Hid (_) := HO.out.push2 (x := (22, n, t)) hbP hB.size HTB.out hown2 hgrow2 (by simpa using hat2)
                have HB2 : Hid (Below w.heap.size w w2) := (bstep' hB hbP).grown hgrow2 (by simp; omega) (fun j hj => (hownP.lt j hj).1)
                clear hown2 hgrow2 hat2 hlt2 hownP hbP
                go_wp2
                go_roundw
                case rel => exact ⟨e2, _, rfl, rfl, ys ++ [(((22, n, t), Value.slice va t.length vc) : SV)], f', HP.out, HN.out, by have := HRD.out.2; omega, by omega, by simp; omega, HB2.out⟩
                case measure => simp [intOf] <;> omega
          · cases hN : hasN op with
            | false =>
              rw [hN] at hhn
              have HHN : Hid (∀ w, Calls Tryd.prog 61 #[.int .i64 op] w fun e w' => e = .returned (.bool false) ∧ w' = w) := hhn
              have hst0 : rdStep s k op = .ok 0 [] (k + 1) := by rw [rdStep_plain h1 h22, rdN_no hN]
              have hbP : Below wr.heap.size wr ((wr.alloc (.cells #[.int .i64 op, .int .i64 0, .slice none 0 0] 36)).alloc (.cells #[.int .i64 op, .int .i64 0, .slice none 0 0] 36)) := below2 wr _ _
              have hownP := owns_below hown.1 hbP
              have HO : Hid (OwnS wr w.heap.size v ys) := hown
              have HN : Hid (rdL s (s.size + 1) 0 [] = rdL s f' (k + 1) ((ys ++ [(((op, 0, []), Value.slice none 0 0) : SV)]).map (·.1))) := by
                show _ = _
                rw [HRD.out.1, rdL_ok hlt (by rw [HOPA.out]; exact hst0), List.map_append, HOPA.out]; rfl
              have HST : Hid (rdStep s k op = .ok 0 [] (k + 1)) := hst0
              have hah := rdStep_ahead HST.out hlt
              obtain ⟨hh1, hh2, hh3, hh4, hh5⟩ := hah
              have hBs := hB.size
              clear hown hhn h1 hN hst0
              go_wp2_with (first | (go_at_call 59; refine (hin _).mono ?_; rintro e' w' ⟨rfl, hw'⟩; subst w') | (go_at_call 61; refine (HHN.out _).mono ?_; rintro e' w' ⟨rfl, hw'⟩; subst w') | (at_builtin; refine wpList_append_lies _ rfl _ _ 23 rfl w.heap.size 36 i0 (.agg #[.int .i64 0, .int .i64 0, .slice none 0 0]) 3 40 Tryd.underlying23 hi hz0 hz1 hz2 rfl (by decide) _ _ _ rfl hownP ⟨wr.heap.size + 1, 0, none⟩ 1 1 [.int .i64 op, .int .i64 0, .slice none 0 0] rfl rfl (news_at2 wr _ #[.int .i64 op, .int .i64 0, .slice none 0 0] 36) (by simp [Value.oneCell']) (by decide) (by unfold maxLen; omega) (by omega) (by simp; omega) (wr.heap.size + 1 + 1) (by simp) ?_))
              intro g cap w2 hown2 hgrow2 hat2 hlt2
              have HP : Hid (_) := HO.out.push2 (x := (op, 0, [])) hbP hB.size (World.ownsRow_nil _ _ _ _) hown2 hgrow2 (by simpa using hat2)
              have HB2 : Hid (Below w.heap.size w w2) := (bstep' hB hbP).grown hgrow2 (by simp; omega) (fun j hj => (hownP.lt j hj).1)
              clear hown2 hgrow2 hat2 hlt2 hownP hbP
              go_wp2
              go_roundw
              case rel => exact ⟨(k + 1), _, rfl, by go_num, ys ++ [(((op, 0, []), Value.slice none 0 0) : SV)], f', HP.out, HN.out, by have := HRD.out.2; omega, by omega, by simp; omega, HB2.out⟩
              case measure => simp [intOf] <;> omega
            | true =>
              rw [hN] at hhn
              have HHN : Hid (∀ w, Calls Tryd.prog 61 #[.int .i64 op] w fun e w' => e = .returned (.bool true) ∧ w' = w) := hhn
              have htk := fun w => sTakeU_any s ((k + 1 : Nat) : Int) w (by omega)
              have ek : ((k + 1 : Nat) : Int) = (k : Int) + 1 := by omega
              cases hr : resU s ((k + 1 : Nat) : Int) with
              | none =>
                rw [hr, ek] at htk
                have HTK : Hid (∀ w, Calls Tryd.prog 62 #[.string s, .int .i64 ((k : Int) + 1)] w fun e w' => e = .returned (takeV none) ∧ w' = w) := htk
                have HR : Hid (readR s = ([], 1, false)) := readR_bad h400 (by rw [HRD.out.1]; exact rdL_bad hlt (by rw [HOPA.out, rdStep_plain h1 h22, rdN_none hN hr]))
                clear htk hr ek h1 hN hhn
                go_wp2_with (first | (go_at_call 59; refine (hin _).mono ?_; rintro e' w' ⟨rfl, hw'⟩; subst w') | (go_at_call 61; refine (HHN.out _).mono ?_; rintro e' w' ⟨rfl, hw'⟩; subst w') | (go_at_call 62; refine (HTK.out _).mono ?_; rintro e' w' ⟨rfl, hw'⟩; subst w'; unfold takeV))
                go_ret3
                refine ⟨?_, hB.alloc hB.size _⟩
                rw [HR.out]
                exact readAns_nil
              | some ne =>
                obtain ⟨n, e2⟩ := ne
                rw [hr, ek] at htk
                have HTK : Hid (∀ w, Calls Tryd.prog 62 #[.string s, .int .i64 ((k : Int) + 1)] w fun e w' => e = .returned (takeV (some (n, e2))) ∧ w' = w) := htk
                have hst0 : rdStep s k op = .ok n [] e2 := by rw [rdStep_plain h1 h22, rdN_some hN hr]
                have hbP : Below wr.heap.size wr ((wr.alloc (.cells #[.int .i64 op, .int .i64 n, .slice none 0 0] 36)).alloc (.cells #[.int .i64 op, .int .i64 n, .slice none 0 0] 36)) := below2 wr _ _
                have hownP := owns_below hown.1 hbP
                have HO : Hid (OwnS wr w.heap.size v ys) := hown
                have HN : Hid (rdL s (s.size + 1) 0 [] = rdL s f' e2 ((ys ++ [(((op, n, []), Value.slice none 0 0) : SV)]).map (·.1))) := by
                  show _ = _
                  rw [HRD.out.1, rdL_ok hlt (by rw [HOPA.out]; exact hst0), List.map_append, HOPA.out]; rfl
                have HST : Hid (rdStep s k op = .ok n [] e2) := hst0
                have hah := rdStep_ahead HST.out hlt
                obtain ⟨hh1, hh2, hh3, hh4, hh5⟩ := hah
                have hBs := hB.size
                clear hown hhn h1 hN hst0 htk ek hr
                go_wp2_with (first | (go_at_call 59; refine (hin _).mono ?_; rintro e' w' ⟨rfl, hw'⟩; subst w') | (go_at_call 61; refine (HHN.out _).mono ?_; rintro e' w' ⟨rfl, hw'⟩; subst w') | (go_at_call 62; refine (HTK.out _).mono ?_; rintro e' w' ⟨rfl, hw'⟩; subst w'; unfold takeV) | (at_builtin; refine wpList_append_lies _ rfl _ _ 23 rfl w.heap.size 36 i0 (.agg #[.int .i64 0, .int .i64 0, .slice none 0 0]) 3 40 Tryd.underlying23 hi hz0 hz1 hz2 rfl (by decide) _ _ _ rfl hownP ⟨wr.heap.size + 1, 0, none⟩ 1 1 [.int .i64 op, .int .i64 n, .slice none 0 0] rfl rfl (news_at2 wr _ #[.int .i64 op, .int .i64 n, .slice none 0 0] 36) (by simp [Value.oneCell']) (by decide) (by unfold maxLen; omega) (by omega) (by simp; omega) (wr.heap.size + 1 + 1) (by simp) ?_))
                intro g cap w2 hown2 hgrow2 hat2 hlt2
                have HP : Hid (_) := HO.out.push2 (x := (op, n, [])) hbP hB.size (World.ownsRow_nil _ _ _ _) hown2 hgrow2 (by simpa using hat2)
                have HB2 : Hid (Below w.heap.size w w2) := (bstep' hB hbP).grown hgrow2 (by simp; omega) (fun j hj => (hownP.lt j hj).1)
                clear hown2 hgrow2 hat2 hlt2 hownP hbP
                go_wp2
                go_roundw
                case rel => exact ⟨e2, _, rfl, by go_num, ys ++ [(((op, n, []), Value.slice none 0 0) : SV)], f', HP.out, HN.out, by have := HRD.out.2; omega, by omega, by simp; omega, HB2.out⟩
                case measure => simp [intOf] <;> omega
      · obtain rfl : k = s.size := by omega
        have HL : Hid (rdL s (s.size + 1) 0 [] = .inr (ys.map (·.1))) := by show _ = _; rw [HRD.out.1]; exact rdL_end hlt
        obtain ⟨va, vc, hva, hrow⟩ := hown.row
        obtain ⟨xs, hxs⟩ : ∃ xs, ys.map (·.1) = xs := ⟨_, rfl⟩
        have hxl : xs.length ≤ 400 := by rw [← hxs]; simp; omega
        rw [hxs] at hva hrow HL
        subst hva
        have HXS : Hid (ys.map (·.1) = xs) := hxs
        have HOW : Hid (OwnS wr w.heap.size (.slice va xs.length vc) ys) := hown
        clear hxs hown
        have hg := fun w h => sGoodS_any va vc xs w (by omega) h
        cases hgd : goodS xs with
        | false =>
          rw [hgd] at hg
          have HR : Hid (readR s = ([], 3, false)) := readR_no h400 HL.out hgd
          have HG : Hid (∀ w, TRow w va xs → Calls Tryd.prog 33 #[.slice va xs.length vc] w fun e w' => e = .returned (.bool false) ∧ Below w.heap.size w w') := hg
          clear hg hgd
          go_wp2_with (go_at_call 33; refine (HG.out _ hrow).mono ?_; rintro e w1 ⟨rfl, hb1⟩)
          go_ret3
          refine ⟨?_, bstep' hB hb1⟩
          rw [HR.out]
          exact readAns_nil
        | true =>
          rw [hgd] at hg
          have HR : Hid (readR s = (xs, 0, true)) := readR_good h400 HL.out hgd
          have HG : Hid (∀ w, TRow w va xs → Calls Tryd.prog 33 #[.slice va xs.length vc] w fun e w' => e = .returned (.bool true) ∧ Below w.heap.size w w') := hg
          clear hg hgd
          go_wp2_with (go_at_call 33; refine (HG.out _ hrow).mono ?_; rintro e w1 ⟨rfl, hb1⟩)
          go_ret3
          refine ⟨?_, bstep' hB hb1⟩
          rw [HR.out]
          exact ⟨_, ys, rfl, OwnS.below HOW.out hb1, HXS.out⟩
  · rw [readR_long h400]
    go_enter Tryd.func24, Tryd.ntmps24
    go_wp2
    go_ret3
    exact ⟨readAns_nil, Below.refl _ _⟩
end Go.Proofs.YtkdabjdobpdooaaDoor
