/- What the model's CutDead answers, at every code. -/
import Derived.Test.YtnhdhpibdimkbaaDoorCut2
namespace Go.Proofs.YtnhdhpibdimkbaaDoor
open Go.RowKit
set_option linter.unusedVariables false
set_option linter.unusedSimpArgs false
set_option maxRecDepth 100000

set_option maxHeartbeats 4000000 in
/-- the model's l4Cut, of good code -/
theorem l4Cut_any (a : Option Addr) (c : Nat) (xs : List Stp) (da : Option Addr) (dc : Nat) (ds : List Bool) (en dn : List Int) (w : World) (hn : nestO xs = some (en, dn)) (hdl : ds.length = xs.length) (h : TRow w a xs) (hD : BRow w da ds) :
    Calls Tryd.prog 101 #[.slice a xs.length c, .slice da ds.length dc] w fun e w' => (∃ v ys, e = .returned v ∧ OwnS w' w.heap.size v ys ∧ ys.map (·.1) = cutN xs en (nots ds) xs.length) ∧ Below w.heap.size w w' := by
  obtain ⟨i0, hi, hz0, hz1, hz2⟩ := info_parts info36
  have hen := nestO_length hn
  have h60 : xs.length ≤ 60 := hen.2.2
  have HEL : Hid (en.length = xs.length) := hen.1
  have HRL : Hid (ds.length = xs.length) := hdl
  have HN : Hid (nestO xs = some (en, dn)) := hn
  have he := l3Ends_any a c xs w (by omega) h
  unfold endsAns at he
  rw [hn] at he
  have HE : Hid (Calls Tryd.prog 71 #[.slice a xs.length c] w fun e w' => (∃ v b, e = .returned (.tuple #[v, .bool b]) ∧ b = true ∧ w'.ownsRow w.heap.size 3 1 v xs.length (ints en)) ∧ Below w.heap.size w w') := he
  clear he hn hdl hen
  by_cases hx : xs = []
  · subst hx
    simp only [List.length_nil, cutN]
    clear h hD
    go_enter Tryd.func101, Tryd.ntmps101
    go_wp2_with fail
    refine HE.out.mono ?_
    rintro e w2 ⟨⟨v2, b2, rfl, rfl, o3⟩, hb2⟩
    obtain ⟨ea, ec, rfl⟩ := slice_of_owned o3
    clear o3
    go_wp2
    go_loopw [7, 18] (fun t7 t18 wr => t7 = .slice none 0 0 ∧ t18 = .int .i64 0 ∧ wr = w2) (fun _ _ _ => 0)
    case atStart => exact ⟨rfl, rfl, rfl⟩
    case round =>
      obtain ⟨rfl, rfl, rfl⟩ := hrel
      go_wp2
      go_ret
      exact ⟨⟨_, [], rfl, ⟨World.ownsRow_nil _ _ _ _, OwnT.nil _ _ _⟩, rfl⟩, hb2⟩
  · obtain ⟨b, off, rfl, hat⟩ := h.at hx
    have HA : Hid (_) := hat
    have hpos : 0 < xs.length := List.length_pos_iff.2 hx
    rcases hD with hq | ⟨rb, ro, rfl, hrc⟩
    · have := HRL.out; rw [hq] at this; simp at this; omega
    have HRC : Hid (∀ i, i < ds.length → w.cell? ⟨rb, ro + i, none⟩ = some (.bool (ds[i]?.getD false))) := hrc
    clear hat h hx hrc
    go_enter Tryd.func101, Tryd.ntmps101
    go_wp2_with fail
    refine HE.out.mono ?_
    rintro e w2 ⟨⟨v2, b2, rfl, rfl, o3⟩, hb2⟩
    rw [← HEL.out] at o3
    obtain ⟨ea, ec, rfl⟩ := slice_of_owned o3
    have hrow := own_row o3
    rcases hrow with hq | ⟨eb, eo, rfl, hec⟩
    · have := HEL.out; rw [hq] at this; simp at this; omega
    have HF : Hid (∀ W, Below w2.heap.size w2 W → (∀ i, i < ds.length → W.cell? ⟨rb, ro + i, none⟩ = some (.bool (ds[i]?.getD false))) ∧ (∀ i, i < en.length → W.cell? ⟨eb, eo + i, none⟩ = some (.int .i64 (en[i]?.getD 0))) ∧ Below w.heap.size w W) := fun W hb =>
      have hb' := bstep' hb2 hb
      ⟨fun i hi => by rw [hb'.cell (World.block_lt_of_cell? _ _ (HRC.out i hi))]; exact HRC.out i hi, fun i hi => by rw [hb.cell (World.block_lt_of_cell? _ _ (hec i hi))]; exact hec i hi, hb'⟩
    have HB2 : Hid (Below w.heap.size w w2) := hb2
    clear o3 hec hb2
    go_wp2
    go_loopw [7, 18] (fun t7 t18 wr => ∃ (k : Nat) (v : Value) (ys : List SV), v = t7 ∧ t18 = .int .i64 k ∧ k ≤ xs.length ∧ OwnS wr w2.heap.size v ys ∧ ys.map (·.1) = cutN xs en (nots ds) k ∧ Below w2.heap.size w2 wr) (fun _ t18 _ => xs.length - (intOf t18).toNat)
    case atStart => exact ⟨0, _, [], rfl, rfl, by omega, ⟨World.ownsRow_nil _ _ _ _, OwnT.nil _ _ _⟩, rfl, Below.refl _ _⟩
    case round =>
      obtain ⟨k, v, ys, rfl, rfl, hk, hown, hys, hB⟩ := hrel
      have HYS : Hid (ys.map (·.1) = cutN xs en (nots ds) k) := hys
      have hyl : ys.length ≤ 60 := by have h1 := congrArg List.length hys; have h2 := cutN_length xs en (nots ds) k; simp at h1; omega
      obtain ⟨va, vc, hva, -⟩ := hown.row
      have hvl : (ys.map (·.1)).length = ys.length := by simp
      rw [hvl] at hva
      subst hva
      clear hys hvl
      obtain ⟨frs, fen, fB⟩ := HF.out wr hB
      by_cases hlt : k < xs.length
      · obtain ⟨p, n, t, ta, tc, c1, c2, c3, hbw, hts, HR, HX⟩ := HA.out wr fB k hlt
        have HT4 : Hid (t.length ≤ 4) := oneS_tab (good_ones HN.out (p, n, t) (List.mem_of_getElem? HX.out))
        have hkd : k < ds.length := by have := HRL.out; omega
        have hke : k < en.length := by have := HEL.out; omega
        have d0 := frs k hkd
        have e0 := fen k hke
        obtain ⟨z0, hz⟩ : ∃ z, ds[k]?.getD false = z := ⟨_, rfl⟩
        rw [hz] at d0
        have HO : Hid (OwnS wr w2.heap.size (.slice va ys.length vc) ys) := hown
        have HBW : Hid (Below w2.heap.size w2 wr) := hB
        obtain ⟨W, hW⟩ : ∃ W, wr.alloc (.cells #[.int .i64 p, .int .i64 n, .slice ta t.length tc] 36) = W := ⟨_, rfl⟩
        have hbW : Below wr.heap.size wr W := by rw [← hW]; exact below1 wr _
        have x0 : W.cell? ⟨wr.heap.size, 0, none⟩ = some (.int .i64 p) := by rw [← hW]; simp [go_sem]
        have x1 : W.cell? ⟨wr.heap.size, 1, none⟩ = some (.int .i64 n) := by rw [← hW]; simp [go_sem]
        have x2 : W.cell? ⟨wr.heap.size, 2, none⟩ = some (.slice ta t.length tc) := by rw [← hW]; simp [go_sem]
        have HWE : Hid (wr.alloc (.cells #[.int .i64 p, .int .i64 n, .slice ta t.length tc] 36) = W) := hW
        have HBB : Hid (Below wr.heap.size wr W) := hbW
        have HSZ : Hid (W.heap.size = wr.heap.size + 1) := by show _ = _; rw [← hW]; simp
        have dW : (wr.alloc (.cells #[.int .i64 p, .int .i64 n, .slice ta t.length tc] 36)).cell? ⟨rb, ro + k, none⟩ = some (.bool z0) := by rw [hW, hbW.cell (World.block_lt_of_cell? _ _ d0)]; exact d0
        by_cases h19 : p = 19
        · obtain ⟨m, q1, hm, hs⟩ := stay_end HN.out HX.out h19
          subst h19
          simp only [] at hs
          have hmd : m < ds.length := by have := HRL.out; omega
          have d1 := frs m hmd
          obtain ⟨z, hzz⟩ : ∃ z, ds[m]?.getD false = z := ⟨_, rfl⟩
          rw [hzz] at d1
          rw [q1] at e0
          simp only [Option.getD_some] at e0
          have eW : (wr.alloc (.cells #[.int .i64 19, .int .i64 n, .slice ta t.length tc] 36)).cell? ⟨eb, eo + k, none⟩ = some (.int .i64 m) := by rw [hW, hbW.cell (World.block_lt_of_cell? _ _ e0)]; exact e0
          have dV : (wr.alloc (.cells #[.int .i64 19, .int .i64 n, .slice ta t.length tc] 36)).cell? ⟨rb, ro + m, none⟩ = some (.bool z) := by rw [hW, hbW.cell (World.block_lt_of_cell? _ _ d1)]; exact d1
          have HKP : Hid ((nots ds)[stayI 19 en k]? = some (!z)) := by
            show _ = _
            rw [hs, ← hzz]; simp [nots, hmd]
          clear hW hbW frs fen q1 hzz hs hz e0 d1 d0
          cases z with
          | true =>
            have HC : Hid (cutN xs en (nots ds) (k + 1) = cutN xs en (nots ds) k) := cutN_drop HX.out HKP.out
            go_wp2
            go_roundw
            case rel => exact ⟨k + 1, _, ys, rfl, by go_num, by omega, OwnS.below HO.out (below1 wr _), by rw [HC.out]; exact HYS.out, bstep' HBW.out (below1 wr _)⟩
            case measure => simp [intOf]; omega
          | false =>
            have HK1 : Hid (∀ o w3, (W.drew.alloc o).grownBy w3 (some W.heap.size) → Below W.heap.size W w3) := fun o w3 hg => (((Below.refl _ W).drew).alloc (by simp) o).grown hg (by simp) (fun k hk => by cases hk; exact Nat.le_refl _)
            have HK2 : Hid (∀ w', Below W.heap.size W w' → w'.cell? ⟨wr.heap.size, 0, none⟩ = some (.int .i64 19) ∧ w'.cell? ⟨wr.heap.size, 1, none⟩ = some (.int .i64 n) ∧ w'.cell? ⟨wr.heap.size, 2, none⟩ = some (.slice ta t.length tc)) := fun w' hb => ⟨by rw [hb.cell (World.block_lt_of_cell? _ _ x0)]; exact x0, by rw [hb.cell (World.block_lt_of_cell? _ _ x1)]; exact x1, by rw [hb.cell (World.block_lt_of_cell? _ _ x2)]; exact x2⟩
            have HK3 : Hid (∀ o w3 w', Below W.heap.size W w3 → (w3.alloc o).grownBy w' (Value.slice va ys.length vc).ownBlock → w'.cell? ⟨wr.heap.size, 0, none⟩ = some (.int .i64 19) ∧ w'.cell? ⟨wr.heap.size, 1, none⟩ = some (.int .i64 n) ∧ w'.cell? ⟨wr.heap.size, 2, none⟩ = some (.slice ta t.length tc)) := fun o w3 w' hb hg => by
              have hlt := HSZ.out
              have hs3 := hb.size
              have hb3 := bstep' hb (below1 w3 o)
              have hne : (Value.slice va ys.length vc).ownBlock ≠ some wr.heap.size := fun e => by have := (HO.out.1.lt _ e).2; omega
              have hbl : w'.heap[wr.heap.size]? = (w3.alloc o).heap[wr.heap.size]? := hg.block _ (by simp; omega) (fun e => hne e.symm)
              obtain ⟨y0, y1, y2⟩ := HK2.out _ hb3
              exact ⟨(World.cell?_of_block (a := ⟨wr.heap.size, 0, none⟩) hbl).trans y0, (World.cell?_of_block (a := ⟨wr.heap.size, 1, none⟩) hbl).trans y1, (World.cell?_of_block (a := ⟨wr.heap.size, 2, none⟩) hbl).trans y2⟩
            have HEM : Hid ((W.drew.alloc (.cells #[] 3)).ownsRow W.heap.size 3 1 (.slice (some ⟨W.heap.size, 0, none⟩) 0 0) 0 []) := ⟨rfl, .inr ⟨W.heap.size, 0, #[], rfl, Nat.le_refl _, heap_alloc_new W.drew _, Nat.le_refl _, by unfold maxLen; omega, rfl, rfl⟩⟩
            have HRW : Hid (Row (W.drew.alloc (.cells #[] 3)) ta t) := HR.out.below (bstep' (HF.out _ (bstep' HBW.out HBB.out)).2.2 (((Below.refl _ W).drew).alloc (by simp) _))
            have HPO : Hid (∀ o w3, Below W.heap.size W w3 → (w3.alloc o).ownsRow w2.heap.size 36 3 (.slice va ys.length vc) ys.length (flatT ys)) := fun o w3 hb => owns_below HO.out.1 (bstep' (bstep' HBB.out hb) (below1 w3 o))
            have HC : Hid (cutN xs en (nots ds) (k + 1) = cutN xs en (nots ds) k ++ [(19, n, t)]) := cutN_keep HX.out HKP.out
            have hl4 : t.length ≤ 4 := HT4.out
            have hlw : w2.heap.size ≤ W.heap.size := by have := HBW.out.size; have := HSZ.out; omega
            have HWW : Hid (wr.heap.size ≤ W.heap.size) := by show _ ≤ _; have := HSZ.out; omega
            go_wp2
            rw [HWE.out]
            go_region_held_law (fun w' => w'.cell? ⟨wr.heap.size, 0, none⟩ = some (.int .i64 19) ∧ w'.cell? ⟨wr.heap.size, 1, none⟩ = some (.int .i64 n) ∧ w'.cell? ⟨wr.heap.size, 2, none⟩ = some (.slice ta t.length tc)) ((first | exact HK2.out _ (by assumption) | exact HK3.out _ _ _ (by assumption) (by assumption) | go_keep)) ((first
              | (refine step_append_row (by rfl) (.tmp 57) (.tmp 59) (by rfl) W.heap.size _ (by rfl) HEM.out ta tc t (by rfl) HRW.out (by omega) (by simp) ?_; intro va3 vc3 w3 hown3 hgrow3; have hb3 := HK1.out _ _ hgrow3)
              | (refine step_append_lies _ (by rfl) (.tmp 52) (.tmp 62) _ (by rfl) w2.heap.size 36 i0 (.agg #[.int .i64 0, .int .i64 0, .slice none 0 0]) 3 40 Tryd.underlying23 hi hz0 hz1 hz2 rfl (by decide) _ _ _ (by rfl) (HPO.out _ _ (by assumption)) ⟨w3.heap.size, 0, none⟩ 1 1 [.int .i64 19, .int .i64 n, .slice va3 t.length vc3] (by rfl) (by rfl) (news_cells w3 #[.int .i64 19, .int .i64 n, .slice va3 t.length vc3] 36) (by simp [Value.oneCell']) (by decide) (by unfold maxLen; omega) (by omega) (by simp; have := hb3.size; omega) (w3.heap.size + 1) (by simp) ?_; intro g cap w4 hown4 hgrow4 hat4 hlt4)))
            all_goals
              have HBP : Hid (Below wr.heap.size wr (w3.alloc (.cells #[.int .i64 19, .int .i64 n, .slice va3 t.length vc3] 36))) := bstep' (bstep' HBB.out hb3) (below1 w3 _)
              have HP : Hid (_) := HO.out.push3 (x := (19, n, t)) HBP.out HBW.out.size (owns_mono (hown3.alloc _) HWW.out) hown4 hgrow4 (by simpa using hat4)
              have HB4 : Hid (Below w2.heap.size w2 w4) := (bstep' HBW.out HBP.out).grown hgrow4 (by have := hb3.size; simp; omega) (fun j hj => (HO.out.1.lt j hj).1)
              clear hown3 hgrow3 hown4 hgrow4 hat4 hlt4 hb3
              go_wp2
              go_roundw
              case rel => exact ⟨k + 1, _, ys ++ [(((19, n, t), Value.slice va3 t.length vc3) : SV)], rfl, by go_num, by omega, HP.out, by rw [HC.out, List.map_append, HYS.out]; rfl, HB4.out⟩
              case measure => simp [intOf] <;> omega
        · by_cases h18 : p = 18
          · obtain ⟨m1, m, q1, q2, hm1, hm, hs⟩ := stay_else HN.out HX.out h18
            subst h18
            simp only [] at hs
            have hmd : m < ds.length := by have := HRL.out; omega
            have hme : m1 < en.length := by have := HEL.out; omega
            have d1 := frs m hmd
            have e1 := fen m1 hme
            obtain ⟨z, hzz⟩ : ∃ z, ds[m]?.getD false = z := ⟨_, rfl⟩
            rw [hzz] at d1
            rw [q1] at e0
            rw [q2] at e1
            simp only [Option.getD_some] at e0 e1
            have eW : (wr.alloc (.cells #[.int .i64 18, .int .i64 n, .slice ta t.length tc] 36)).cell? ⟨eb, eo + k, none⟩ = some (.int .i64 m1) := by rw [hW, hbW.cell (World.block_lt_of_cell? _ _ e0)]; exact e0
            have eV : (wr.alloc (.cells #[.int .i64 18, .int .i64 n, .slice ta t.length tc] 36)).cell? ⟨eb, eo + m1, none⟩ = some (.int .i64 m) := by rw [hW, hbW.cell (World.block_lt_of_cell? _ _ e1)]; exact e1
            have dV : (wr.alloc (.cells #[.int .i64 18, .int .i64 n, .slice ta t.length tc] 36)).cell? ⟨rb, ro + m, none⟩ = some (.bool z) := by rw [hW, hbW.cell (World.block_lt_of_cell? _ _ d1)]; exact d1
            have HKP : Hid ((nots ds)[stayI 18 en k]? = some (!z)) := by
              show _ = _
              rw [hs, ← hzz]; simp [nots, hmd]
            clear hW hbW frs fen q1 q2 hzz hs hz e0 e1 d1 d0
            cases z with
            | true =>
              have HC : Hid (cutN xs en (nots ds) (k + 1) = cutN xs en (nots ds) k) := cutN_drop HX.out HKP.out
              go_wp2
              go_roundw
              case rel => exact ⟨k + 1, _, ys, rfl, by go_num, by omega, OwnS.below HO.out (below1 wr _), by rw [HC.out]; exact HYS.out, bstep' HBW.out (below1 wr _)⟩
              case measure => simp [intOf]; omega
            | false =>
              have HK1 : Hid (∀ o w3, (W.drew.alloc o).grownBy w3 (some W.heap.size) → Below W.heap.size W w3) := fun o w3 hg => (((Below.refl _ W).drew).alloc (by simp) o).grown hg (by simp) (fun k hk => by cases hk; exact Nat.le_refl _)
              have HK2 : Hid (∀ w', Below W.heap.size W w' → w'.cell? ⟨wr.heap.size, 0, none⟩ = some (.int .i64 18) ∧ w'.cell? ⟨wr.heap.size, 1, none⟩ = some (.int .i64 n) ∧ w'.cell? ⟨wr.heap.size, 2, none⟩ = some (.slice ta t.length tc)) := fun w' hb => ⟨by rw [hb.cell (World.block_lt_of_cell? _ _ x0)]; exact x0, by rw [hb.cell (World.block_lt_of_cell? _ _ x1)]; exact x1, by rw [hb.cell (World.block_lt_of_cell? _ _ x2)]; exact x2⟩
              have HK3 : Hid (∀ o w3 w', Below W.heap.size W w3 → (w3.alloc o).grownBy w' (Value.slice va ys.length vc).ownBlock → w'.cell? ⟨wr.heap.size, 0, none⟩ = some (.int .i64 18) ∧ w'.cell? ⟨wr.heap.size, 1, none⟩ = some (.int .i64 n) ∧ w'.cell? ⟨wr.heap.size, 2, none⟩ = some (.slice ta t.length tc)) := fun o w3 w' hb hg => by
                have hlt := HSZ.out
                have hs3 := hb.size
                have hb3 := bstep' hb (below1 w3 o)
                have hne : (Value.slice va ys.length vc).ownBlock ≠ some wr.heap.size := fun e => by have := (HO.out.1.lt _ e).2; omega
                have hbl : w'.heap[wr.heap.size]? = (w3.alloc o).heap[wr.heap.size]? := hg.block _ (by simp; omega) (fun e => hne e.symm)
                obtain ⟨y0, y1, y2⟩ := HK2.out _ hb3
                exact ⟨(World.cell?_of_block (a := ⟨wr.heap.size, 0, none⟩) hbl).trans y0, (World.cell?_of_block (a := ⟨wr.heap.size, 1, none⟩) hbl).trans y1, (World.cell?_of_block (a := ⟨wr.heap.size, 2, none⟩) hbl).trans y2⟩
              have HEM : Hid ((W.drew.alloc (.cells #[] 3)).ownsRow W.heap.size 3 1 (.slice (some ⟨W.heap.size, 0, none⟩) 0 0) 0 []) := ⟨rfl, .inr ⟨W.heap.size, 0, #[], rfl, Nat.le_refl _, heap_alloc_new W.drew _, Nat.le_refl _, by unfold maxLen; omega, rfl, rfl⟩⟩
              have HRW : Hid (Row (W.drew.alloc (.cells #[] 3)) ta t) := HR.out.below (bstep' (HF.out _ (bstep' HBW.out HBB.out)).2.2 (((Below.refl _ W).drew).alloc (by simp) _))
              have HPO : Hid (∀ o w3, Below W.heap.size W w3 → (w3.alloc o).ownsRow w2.heap.size 36 3 (.slice va ys.length vc) ys.length (flatT ys)) := fun o w3 hb => owns_below HO.out.1 (bstep' (bstep' HBB.out hb) (below1 w3 o))
              have HC : Hid (cutN xs en (nots ds) (k + 1) = cutN xs en (nots ds) k ++ [(18, n, t)]) := cutN_keep HX.out HKP.out
              have hl4 : t.length ≤ 4 := HT4.out
              have hlw : w2.heap.size ≤ W.heap.size := by have := HBW.out.size; have := HSZ.out; omega
              have HWW : Hid (wr.heap.size ≤ W.heap.size) := by show _ ≤ _; have := HSZ.out; omega
              go_wp2
              rw [HWE.out]
              go_region_held_law (fun w' => w'.cell? ⟨wr.heap.size, 0, none⟩ = some (.int .i64 18) ∧ w'.cell? ⟨wr.heap.size, 1, none⟩ = some (.int .i64 n) ∧ w'.cell? ⟨wr.heap.size, 2, none⟩ = some (.slice ta t.length tc)) ((first | exact HK2.out _ (by assumption) | exact HK3.out _ _ _ (by assumption) (by assumption) | go_keep)) ((first
                | (refine step_append_row (by rfl) (.tmp 57) (.tmp 59) (by rfl) W.heap.size _ (by rfl) HEM.out ta tc t (by rfl) HRW.out (by omega) (by simp) ?_; intro va3 vc3 w3 hown3 hgrow3; have hb3 := HK1.out _ _ hgrow3)
                | (refine step_append_lies _ (by rfl) (.tmp 52) (.tmp 62) _ (by rfl) w2.heap.size 36 i0 (.agg #[.int .i64 0, .int .i64 0, .slice none 0 0]) 3 40 Tryd.underlying23 hi hz0 hz1 hz2 rfl (by decide) _ _ _ (by rfl) (HPO.out _ _ (by assumption)) ⟨w3.heap.size, 0, none⟩ 1 1 [.int .i64 18, .int .i64 n, .slice va3 t.length vc3] (by rfl) (by rfl) (news_cells w3 #[.int .i64 18, .int .i64 n, .slice va3 t.length vc3] 36) (by simp [Value.oneCell']) (by decide) (by unfold maxLen; omega) (by omega) (by simp; have := hb3.size; omega) (w3.heap.size + 1) (by simp) ?_; intro g cap w4 hown4 hgrow4 hat4 hlt4)))
              all_goals
                have HBP : Hid (Below wr.heap.size wr (w3.alloc (.cells #[.int .i64 18, .int .i64 n, .slice va3 t.length vc3] 36))) := bstep' (bstep' HBB.out hb3) (below1 w3 _)
                have HP : Hid (_) := HO.out.push3 (x := (18, n, t)) HBP.out HBW.out.size (owns_mono (hown3.alloc _) HWW.out) hown4 hgrow4 (by simpa using hat4)
                have HB4 : Hid (Below w2.heap.size w2 w4) := (bstep' HBW.out HBP.out).grown hgrow4 (by have := hb3.size; simp; omega) (fun j hj => (HO.out.1.lt j hj).1)
                clear hown3 hgrow3 hown4 hgrow4 hat4 hlt4 hb3
                go_wp2
                go_roundw
                case rel => exact ⟨k + 1, _, ys ++ [(((18, n, t), Value.slice va3 t.length vc3) : SV)], rfl, by go_num, by omega, HP.out, by rw [HC.out, List.map_append, HYS.out]; rfl, HB4.out⟩
                case measure => simp [intOf] <;> omega
          · have hs := stay_self (y := (p, n, t)) (e := en) (j := k) h18 h19
            simp only [] at hs
            have HKP : Hid ((nots ds)[stayI p en k]? = some (!z0)) := by
              show _ = _
              rw [hs, ← hz]; simp [nots, hkd]
            clear hW hbW frs fen hs hz e0 d0
            cases z0 with
            | true =>
              have HC : Hid (cutN xs en (nots ds) (k + 1) = cutN xs en (nots ds) k) := cutN_drop HX.out HKP.out
              go_wp2
              go_roundw
              case rel => exact ⟨k + 1, _, ys, rfl, by go_num, by omega, OwnS.below HO.out (below1 wr _), by rw [HC.out]; exact HYS.out, bstep' HBW.out (below1 wr _)⟩
              case measure => simp [intOf]; omega
            | false =>
              have HK1 : Hid (∀ o w3, (W.drew.alloc o).grownBy w3 (some W.heap.size) → Below W.heap.size W w3) := fun o w3 hg => (((Below.refl _ W).drew).alloc (by simp) o).grown hg (by simp) (fun k hk => by cases hk; exact Nat.le_refl _)
              have HK2 : Hid (∀ w', Below W.heap.size W w' → w'.cell? ⟨wr.heap.size, 0, none⟩ = some (.int .i64 p) ∧ w'.cell? ⟨wr.heap.size, 1, none⟩ = some (.int .i64 n) ∧ w'.cell? ⟨wr.heap.size, 2, none⟩ = some (.slice ta t.length tc)) := fun w' hb => ⟨by rw [hb.cell (World.block_lt_of_cell? _ _ x0)]; exact x0, by rw [hb.cell (World.block_lt_of_cell? _ _ x1)]; exact x1, by rw [hb.cell (World.block_lt_of_cell? _ _ x2)]; exact x2⟩
              have HK3 : Hid (∀ o w3 w', Below W.heap.size W w3 → (w3.alloc o).grownBy w' (Value.slice va ys.length vc).ownBlock → w'.cell? ⟨wr.heap.size, 0, none⟩ = some (.int .i64 p) ∧ w'.cell? ⟨wr.heap.size, 1, none⟩ = some (.int .i64 n) ∧ w'.cell? ⟨wr.heap.size, 2, none⟩ = some (.slice ta t.length tc)) := fun o w3 w' hb hg => by
                have hlt := HSZ.out
                have hs3 := hb.size
                have hb3 := bstep' hb (below1 w3 o)
                have hne : (Value.slice va ys.length vc).ownBlock ≠ some wr.heap.size := fun e => by have := (HO.out.1.lt _ e).2; omega
                have hbl : w'.heap[wr.heap.size]? = (w3.alloc o).heap[wr.heap.size]? := hg.block _ (by simp; omega) (fun e => hne e.symm)
                obtain ⟨y0, y1, y2⟩ := HK2.out _ hb3
                exact ⟨(World.cell?_of_block (a := ⟨wr.heap.size, 0, none⟩) hbl).trans y0, (World.cell?_of_block (a := ⟨wr.heap.size, 1, none⟩) hbl).trans y1, (World.cell?_of_block (a := ⟨wr.heap.size, 2, none⟩) hbl).trans y2⟩
              have HEM : Hid ((W.drew.alloc (.cells #[] 3)).ownsRow W.heap.size 3 1 (.slice (some ⟨W.heap.size, 0, none⟩) 0 0) 0 []) := ⟨rfl, .inr ⟨W.heap.size, 0, #[], rfl, Nat.le_refl _, heap_alloc_new W.drew _, Nat.le_refl _, by unfold maxLen; omega, rfl, rfl⟩⟩
              have HRW : Hid (Row (W.drew.alloc (.cells #[] 3)) ta t) := HR.out.below (bstep' (HF.out _ (bstep' HBW.out HBB.out)).2.2 (((Below.refl _ W).drew).alloc (by simp) _))
              have HPO : Hid (∀ o w3, Below W.heap.size W w3 → (w3.alloc o).ownsRow w2.heap.size 36 3 (.slice va ys.length vc) ys.length (flatT ys)) := fun o w3 hb => owns_below HO.out.1 (bstep' (bstep' HBB.out hb) (below1 w3 o))
              have HC : Hid (cutN xs en (nots ds) (k + 1) = cutN xs en (nots ds) k ++ [(p, n, t)]) := cutN_keep HX.out HKP.out
              have hl4 : t.length ≤ 4 := HT4.out
              have hlw : w2.heap.size ≤ W.heap.size := by have := HBW.out.size; have := HSZ.out; omega
              have HWW : Hid (wr.heap.size ≤ W.heap.size) := by show _ ≤ _; have := HSZ.out; omega
              go_wp2
              rw [HWE.out]
              go_region_held_law (fun w' => w'.cell? ⟨wr.heap.size, 0, none⟩ = some (.int .i64 p) ∧ w'.cell? ⟨wr.heap.size, 1, none⟩ = some (.int .i64 n) ∧ w'.cell? ⟨wr.heap.size, 2, none⟩ = some (.slice ta t.length tc)) ((first | exact HK2.out _ (by assumption) | exact HK3.out _ _ _ (by assumption) (by assumption) | go_keep)) ((first
                | (refine step_append_row (by rfl) (.tmp 57) (.tmp 59) (by rfl) W.heap.size _ (by rfl) HEM.out ta tc t (by rfl) HRW.out (by omega) (by simp) ?_; intro va3 vc3 w3 hown3 hgrow3; have hb3 := HK1.out _ _ hgrow3)
                | (refine step_append_lies _ (by rfl) (.tmp 52) (.tmp 62) _ (by rfl) w2.heap.size 36 i0 (.agg #[.int .i64 0, .int .i64 0, .slice none 0 0]) 3 40 Tryd.underlying23 hi hz0 hz1 hz2 rfl (by decide) _ _ _ (by rfl) (HPO.out _ _ (by assumption)) ⟨w3.heap.size, 0, none⟩ 1 1 [.int .i64 p, .int .i64 n, .slice va3 t.length vc3] (by rfl) (by rfl) (news_cells w3 #[.int .i64 p, .int .i64 n, .slice va3 t.length vc3] 36) (by simp [Value.oneCell']) (by decide) (by unfold maxLen; omega) (by omega) (by simp; have := hb3.size; omega) (w3.heap.size + 1) (by simp) ?_; intro g cap w4 hown4 hgrow4 hat4 hlt4)))
              all_goals
                have HBP : Hid (Below wr.heap.size wr (w3.alloc (.cells #[.int .i64 p, .int .i64 n, .slice va3 t.length vc3] 36))) := bstep' (bstep' HBB.out hb3) (below1 w3 _)
                have HP : Hid (_) := HO.out.push3 (x := (p, n, t)) HBP.out HBW.out.size (owns_mono (hown3.alloc _) HWW.out) hown4 hgrow4 (by simpa using hat4)
                have HB4 : Hid (Below w2.heap.size w2 w4) := (bstep' HBW.out HBP.out).grown hgrow4 (by have := hb3.size; simp; omega) (fun j hj => (HO.out.1.lt j hj).1)
                clear hown3 hgrow3 hown4 hgrow4 hat4 hlt4 hb3
                go_wp2
                go_roundw
                case rel => exact ⟨k + 1, _, ys ++ [(((p, n, t), Value.slice va3 t.length vc3) : SV)], rfl, by go_num, by omega, HP.out, by rw [HC.out, List.map_append, HYS.out]; rfl, HB4.out⟩
                case measure => simp [intOf] <;> omega
      · obtain rfl : k = xs.length := by omega
        have HO : Hid (OwnS wr w2.heap.size (.slice va ys.length vc) ys) := hown
        clear frs fen hown
        go_wp2
        go_ret
        exact ⟨⟨_, ys, rfl, HO.out.mono (by have := HB2.out.size; omega), HYS.out⟩, fB⟩

set_option maxHeartbeats 2000000 in
/-- the model's CutDead -/
theorem sCut_any (a : Option Addr) (c : Nat) (xs : List Stp) (w : World) (hl : xs.length ≤ 1048576) (h : TRow w a xs) :
    Calls Tryd.prog 58 #[.slice a xs.length c] w fun e w' => cutAns w.heap.size w' (cutR xs (validR xs)) (fineR (validR xs)) e ∧ Below w.heap.size w w' := by
  have hw := l4Valid_any a c xs w hl h
  cases hr : validR xs with
  | bad k p =>
    rw [hr] at hw
    have HW : Hid (Calls Tryd.prog 96 #[.slice a xs.length c] w fun e w' => l4vAns w.heap.size w' e (.bad k p) ∧ Below w.heap.size w w') := hw
    clear hw hr h
    simp only [cutR, fineR]
    go_enter Tryd.func58, Tryd.ntmps58
    go_wp2_with fail
    refine HW.out.mono ?_
    rintro e w1 ⟨⟨ha, hn, hc, da, dn, dc, k, p, rfl⟩, hb1⟩
    go_wp2
    go_ret2
    exact ⟨cutAns_nil, bstep' hb1 (below1 w1 _)⟩
  | fine hs rs =>
    rw [hr] at hw
    have hlen := validR_length hr
    have hg := hlen.2.2.2
    obtain ⟨en, dn, hn⟩ : ∃ e d, nestO xs = some (e, d) := by
      cases hn : nestO xs with
      | none => rw [goodS_none hn] at hg; cases hg
      | some p => exact ⟨p.1, p.2, rfl⟩
    have HW : Hid (Calls Tryd.prog 96 #[.slice a xs.length c] w fun e w' => l4vAns w.heap.size w' e (.fine hs rs) ∧ Below w.heap.size w w') := hw
    have HN : Hid (nestO xs = some (en, dn)) := hn
    have HRL : Hid (rs.length = xs.length) := hlen.2.1
    have HT : Hid (TRow w a xs) := h
    simp only [cutR, fineR]
    rw [endsL_some hn]
    clear hw hr hlen hg hn h
    go_enter Tryd.func58, Tryd.ntmps58
    go_wp2_with fail
    refine HW.out.mono ?_
    rintro e w1 ⟨⟨ha, hc, da, dc, k, p, ds, rfl, hrs, o1, o2, hap⟩, hb1⟩
    have hdl : ds.length = xs.length := by rw [← HRL.out, hrs, nots_length]
    have hrow := own_brow o2
    have HCT : Hid (∀ W, Below w1.heap.size w1 W → Calls Tryd.prog 101 #[.slice a xs.length c, .slice da ds.length dc] W fun e w' => (∃ v ys, e = .returned v ∧ OwnS w' W.heap.size v ys ∧ ys.map (·.1) = cutN xs en rs xs.length) ∧ Below W.heap.size W w') := fun W hb => by
      have := l4Cut_any a c xs da dc ds en dn W HN.out hdl (HT.out.below (bstep' hb1 hb)) (hrow.below hb)
      rw [← hrs] at this
      exact this
    clear o1 o2 hap hrow hrs hdl
    go_wp2_with fail
    refine (HCT.out _ (below1 w1 _)).mono ?_
    rintro e w2 ⟨⟨v, ys, rfl, ho, hy⟩, hb2⟩
    obtain ⟨va, vc, rfl, -⟩ := ho.row
    have HO : Hid (OwnS w2 w.heap.size (.slice va (ys.map (·.1)).length vc) ys) := ho.mono (by have := hb1.size; simp; omega)
    have HY : Hid (ys.map (·.1) = cutN xs en rs xs.length) := hy
    generalize (ys.map (·.1)).length = m at HO ⊢
    clear ho hy
    go_wp2
    go_ret2
    exact ⟨⟨_, ys, rfl, HO.out, HY.out⟩, bstep' (bstep' hb1 (below1 w1 _)) hb2⟩
end Go.Proofs.YtnhdhpibdimkbaaDoor
