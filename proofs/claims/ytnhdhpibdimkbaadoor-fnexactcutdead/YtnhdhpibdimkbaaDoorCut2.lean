/- What the program's CutDead answers, at every code. -/
import Derived.Test.YtnhdhpibdimkbaaDoorCut1
import Derived.Test.YtnhdhpibdimkbaaDoorReach
namespace Go.Proofs.YtnhdhpibdimkbaaDoor
open Go.RowKit
set_option linter.unusedVariables false
set_option linter.unusedSimpArgs false
set_option maxRecDepth 100000

/-- what CutDead answers -/
def cutR (xs : List Stp) : WR → List Stp
  | .bad _ _ => []
  | .fine _ rs => cutN xs (endsL xs) rs xs.length
def cutAns (B : Nat) (w' : World) (L : List Stp) (G : Bool) (e : Ending) : Prop := ∃ v ys, e = .returned (.tuple #[v, .bool G]) ∧ OwnS w' B v ys ∧ ys.map (·.1) = L
theorem cutAns_nil {B : Nat} {w' : World} {G : Bool} : cutAns B w' [] G (.returned (.tuple #[.slice none 0 0, .bool G])) := ⟨_, [], rfl, ⟨World.ownsRow_nil _ _ _ _, OwnT.nil _ _ _⟩, rfl⟩
theorem oneS_tab {x : Stp} (h : oneS x = true) : x.2.2.length ≤ 4 := by
  unfold oneS at h
  simp only [Bool.and_eq_true] at h
  have h2 := h.2
  split at h2
  · simp only [Bool.and_eq_true, decide_eq_true_eq] at h2; exact h2.1.2
  · simp only [decide_eq_true_eq] at h2; omega
theorem stp_is_one {x : Stp} {o : List Spn} {e : List Int} {p : List Spn × List Int} (h : stp x o e = some p) : oneS x = true := by
  cases ho : oneS x with
  | true => rfl
  | false => rw [stp_one ho] at h; cases h
theorem good_ones {xs : List Stp} {e d : List Int} (h : nestO xs = some (e, d)) : ∀ x ∈ xs, oneS x = true := by
  have hr := nestO_run h
  intro x hx
  obtain ⟨j, hj⟩ := List.getElem?_of_mem hx
  obtain ⟨hlt, hy⟩ := List.getElem?_eq_some_iff.1 hj
  have hsp : xs = xs.take j ++ x :: xs.drop (j + 1) := by
    rw [← hy, ← List.drop_eq_getElem_cons hlt]; exact (List.take_append_drop _ _).symm
  rw [hsp] at hr
  obtain ⟨o, e1, d1, r1, r2⟩ := runN_append hr
  cases hs : stp x o e1 with
  | none => rw [runN_snoc_none hs] at r2; cases r2
  | some p => exact stp_is_one hs
theorem cutR_bound (xs : List Stp) : (cutR xs (validR xs)).length ≤ 60 ∧ sumT (cutR xs (validR xs)) ≤ 240 := by
  cases h : validR xs with
  | bad c k => simp [cutR, sumT]
  | fine hs rs =>
    have hl := validR_length h
    have hg := hl.2.2.2
    cases hn : nestO xs with
    | none => rw [goodS_none hn] at hg; cases hg
    | some p =>
      obtain ⟨e, d⟩ := p
      simp only [cutR]
      have h1 := cutN_length xs (endsL xs) rs xs.length
      have h2 := cutN_sum xs (endsL xs) rs 4 (fun x hx => oneS_tab (good_ones hn x hx)) xs.length
      exact ⟨by omega, by unfold sumT; omega⟩

/-- the program's stayWith -/
theorem stayWith_any {xs : List Stp} {e d : List Int} (hn : nestO xs = some (e, d)) (k : Nat) (y : Stp) (hk : xs[k]? = some y) (ea : Option Addr) (ec : Nat) (w : World) (hR : Row w ea e) :
    Calls Tryd.prog 102 #[.int .i64 y.1, .slice ea e.length ec, .int .i64 k] w fun e' w' => e' = .returned (.int .i64 (stayI y.1 e k)) ∧ w' = w := by
  have hlen := nestO_length hn
  have hlt := (List.getElem?_eq_some_iff.1 hk).1
  have hx : e ≠ [] := by intro h; subst h; simp at hlen; omega
  rcases hR with h | ⟨b, off, rfl, hc⟩
  · exact absurd h hx
  by_cases h18 : y.1 = 18
  · obtain ⟨m, i, h1, h2, hm, hi, hs⟩ := stay_else hn hk h18
    rw [hs, h18]
    have c1 := hc k (by omega)
    rw [h1] at c1
    have c2 := hc m (by omega)
    rw [h2] at c2
    simp only [Option.getD_some] at c1 c2
    have hkl : k < e.length := by omega
    have hml : m < e.length := by omega
    clear hs h1 h2 hc hk hn hx
    go_enter Tryd.func102, Tryd.ntmps102
    go_wp2
    go_ret
    exact ⟨rfl, rfl⟩
  · by_cases h19 : y.1 = 19
    · obtain ⟨m, h1, hm, hs⟩ := stay_end hn hk h19
      rw [hs, h19]
      have c1 := hc k (by omega)
      rw [h1] at c1
      simp only [Option.getD_some] at c1
      have hkl : k < e.length := by omega
      clear hs h1 hc hk hn hx
      go_enter Tryd.func102, Tryd.ntmps102
      go_wp2
      go_ret
      exact ⟨rfl, rfl⟩
    · rw [stay_self h18 h19]
      generalize y.1 = op at h18 h19
      clear hc hx
      go_enter Tryd.func102, Tryd.ntmps102
      go_wp2
      go_ret
      exact ⟨rfl, rfl⟩
theorem stay_lt {xs : List Stp} {e d : List Int} (hn : nestO xs = some (e, d)) {k : Nat} {y : Stp} (hk : xs[k]? = some y) : stayI y.1 e k < xs.length := by
  have hlt := (List.getElem?_eq_some_iff.1 hk).1
  by_cases h18 : y.1 = 18
  · obtain ⟨m, i, h1, h2, hm, hi, hs⟩ := stay_else hn hk h18
    omega
  · by_cases h19 : y.1 = 19
    · obtain ⟨m, h1, hm, hs⟩ := stay_end hn hk h19
      omega
    · rw [stay_self h18 h19]; exact hlt

set_option maxHeartbeats 4000000 in
/-- the program's CutDead -/
theorem iCut_any (a : Option Addr) (c : Nat) (xs : List Stp) (S : Nat → Addr) (w : World) (hl : xs.length ≤ 1048576) (h : TRow w a xs) (hT : Tab w) (hE : Errs w S) :
    Calls Tryd.prog 59 #[.slice a xs.length c] w fun e w' => cutAns w.heap.size w' (cutR xs (validR xs)) (fineR (validR xs)) e ∧ Below w.heap.size w w' := by
  have hw := walk_all a c xs S w hl h hT hE
  obtain ⟨i0, hi, hz0, hz1, hz2⟩ := info_parts info36
  cases hr : validR xs with
  | bad k p =>
    rw [hr] at hw
    have HW : Hid (Calls Tryd.prog 92 #[.slice a xs.length c] w fun e w' => (e = .returned (.tuple #[noWalk, faultV S k p]) ∧ 1 ≤ k ∧ k ≤ 4) ∧ Below w.heap.size w w') := hw
    clear hw hr h hT hE
    simp only [cutR, fineR]
    go_enter Tryd.func59, Tryd.ntmps59
    go_wp2_with fail
    refine HW.out.mono ?_
    rintro e w1 ⟨⟨rfl, k1, k4⟩, hb1⟩
    go_wp2
    go_ret2
    exact ⟨cutAns_nil, bstep' hb1 (below1 w1 _)⟩
  | fine hs rs =>
    rw [hr] at hw
    have hlen := validR_length hr
    have hg := hlen.2.2.2
    obtain ⟨en, dn, hn⟩ : ∃ e d, nestO xs = some (e, d) := by
      cases hn : nestO xs with
      | none => rw [goodS_none hn] at hg; cases hg
      | some p => exact ⟨p.1, p.2, rfl⟩
    have hen := nestO_length hn
    have HW : Hid (Calls Tryd.prog 92 #[.slice a xs.length c] w fun e w' => walkAns w.heap.size w' S e (.fine hs rs) ∧ Below w.heap.size w w') := hw
    have HEN : Hid (∀ W, Below w.heap.size w W → Calls Tryd.prog 15 #[.slice a xs.length c] W fun e w' => (∃ v, e = .returned (.tuple #[v, .bool true]) ∧ w'.ownsRow W.heap.size 3 1 v en.length (ints en)) ∧ Below W.heap.size W w') := fun W hb => by
      have := iEnds_any a c xs W hl (h.below hb) (hT.below hb)
      rw [hg, endsL_some hn] at this
      exact this
    have HN : Hid (nestO xs = some (en, dn)) := hn
    have HRL : Hid (rs.length = xs.length) := hlen.2.1
    have h60 : xs.length ≤ 60 := hlen.2.2.1
    have HEL : Hid (en.length = xs.length) := hen.1
    simp only [cutR, fineR]
    rw [endsL_some hn]
    have HT : Hid (TRow w a xs) := h
    clear hw hr hlen hg hn hen h hT hE
    by_cases hx : xs = []
    · subst hx
      simp only [List.length_nil, cutN]
      go_enter Tryd.func59, Tryd.ntmps59
      go_wp2_with fail
      refine HW.out.mono ?_
      rintro e w1 ⟨⟨ov, h, d, hv, rv, rfl, o1, o2, hap, oa, on, oc, rfl⟩, hb1⟩
      obtain ⟨ha, hc, rfl⟩ := slice_of_owned o1
      obtain ⟨ra, rc, rfl⟩ := slice_of_owned o2
      clear o1 o2 hap
      go_wp2_with fail
      refine (HEN.out _ (bstep' hb1 (below1 w1 _))).mono ?_
      rintro e w2 ⟨⟨v2, rfl, o3⟩, hb2⟩
      obtain ⟨ea, ec, rfl⟩ := slice_of_owned o3
      have HB2 : Hid (Below w.heap.size w w2) := bstep' (bstep' hb1 (below1 w1 _)) hb2
      clear o3 hb2
      go_wp2
      go_loopw [8, 25] (fun t8 t25 wr => t8 = .slice none 0 0 ∧ t25 = .int .i64 0 ∧ wr = w2) (fun _ _ _ => 0)
      case atStart => exact ⟨rfl, rfl, rfl⟩
      case round =>
        obtain ⟨rfl, rfl, rfl⟩ := hrel
        go_wp2
        go_ret2
        exact ⟨cutAns_nil, HB2.out⟩
    · obtain ⟨b, off, rfl, hat⟩ := HT.out.at hx
      have HA : Hid (_) := hat
      have hpos : 0 < xs.length := List.length_pos_iff.2 hx
      clear hat HT hx
      go_enter Tryd.func59, Tryd.ntmps59
      go_wp2_with fail
      refine HW.out.mono ?_
      rintro e w1 ⟨⟨ov, h, d, hv, rv, rfl, o1, o2, hap, oa, on, oc, rfl⟩, hb1⟩
      obtain ⟨ha, hc, rfl⟩ := slice_of_owned o1
      obtain ⟨ra, rc, rfl⟩ := slice_of_owned o2
      have hbr := own_brow o2
      clear o1 hap
      go_wp2_with fail
      refine (HEN.out _ (bstep' hb1 (below1 w1 _))).mono ?_
      rintro e w2 ⟨⟨v2, rfl, o3⟩, hb2⟩
      obtain ⟨ea, ec, rfl⟩ := slice_of_owned o3
      have hrow := own_row o3
      have m4 : w2.cell? ⟨w1.heap.size, 4, none⟩ = some (.slice ra rs.length rc) := by rw [(bcell hb2).1 _ _ (by simp)]; simp [go_sem]
      have hbr2 := (hbr.below (below1 w1 _)).below hb2
      rcases hbr2 with hq | ⟨rb, ro, rfl, hrc⟩
      · have hrl := HRL.out; rw [hq] at hrl; simp at hrl; omega
      have HB2 : Hid (Below w.heap.size w w2) := bstep' (bstep' hb1 (below1 w1 _)) hb2
      have HF : Hid (∀ W, Below w2.heap.size w2 W → W.cell? ⟨w1.heap.size, 4, none⟩ = some (.slice (some ⟨rb, ro, none⟩) rs.length rc) ∧ (∀ i, i < rs.length → W.cell? ⟨rb, ro + i, none⟩ = some (.bool (rs[i]?.getD false))) ∧ Row W ea en ∧ Below w.heap.size w W) := fun W hb =>
        ⟨by rw [hb.cell (World.block_lt_of_cell? _ _ m4)]; exact m4, fun i hi => by rw [hb.cell (World.block_lt_of_cell? _ _ (hrc i hi))]; exact hrc i hi, hrow.below hb, bstep' HB2.out hb⟩
      clear o2 o3 hb2 hbr hrow m4 hrc
      go_wp2
      go_loopw [8, 25] (fun t8 t25 wr => ∃ (k : Nat) (v : Value) (ys : List SV), v = t8 ∧ t25 = .int .i64 k ∧ k ≤ xs.length ∧ OwnS wr w2.heap.size v ys ∧ ys.map (·.1) = cutN xs en rs k ∧ Below w2.heap.size w2 wr) (fun _ t25 _ => xs.length - (intOf t25).toNat)
      case atStart => exact ⟨0, _, [], rfl, rfl, by omega, ⟨World.ownsRow_nil _ _ _ _, OwnT.nil _ _ _⟩, rfl, Below.refl _ _⟩
      case round =>
        obtain ⟨k, v, ys, rfl, rfl, hk, hown, hys, hB⟩ := hrel
        have HYS : Hid (ys.map (·.1) = cutN xs en rs k) := hys
        have hyl : ys.length ≤ 60 := by have h1 := congrArg List.length hys; have h2 := cutN_length xs en rs k; simp at h1; omega
        obtain ⟨va, vc, hva, -⟩ := hown.row
        have hvl : (ys.map (·.1)).length = ys.length := by simp
        rw [hvl] at hva
        subst hva
        clear hys hvl
        obtain ⟨f4, frs, fen, fB⟩ := HF.out wr hB
        by_cases hlt : k < xs.length
        · obtain ⟨p, n, t, ta, tc, c1, c2, c3, hbw, hts, HR, HX⟩ := HA.out wr fB k hlt
          have HT4 : Hid (t.length ≤ 4) := oneS_tab (good_ones HN.out (p, n, t) (List.mem_of_getElem? HX.out))
          have hst := fun W (hR : Row W ea en) => stayWith_any HN.out k (p, n, t) HX.out ea ec W hR
          have hslt := stay_lt HN.out HX.out
          simp only [] at hst hslt
          obtain ⟨m, hm⟩ : ∃ m, stayI p en k = m := ⟨_, rfl⟩
          rw [hm] at hst hslt
          have HM : Hid (stayI p en k = m) := hm
          have hmr : m < rs.length := by have := HRL.out; omega
          have f5 := frs m hmr
          have HST : Hid (∀ o q, Calls Tryd.prog 102 #[.int .i64 p, .slice ea en.length ec, .int .i64 k] ((wr.alloc o).drewN q) fun e' w' => e' = .returned (.int .i64 m) ∧ w' = ((wr.alloc o).drewN q)) := fun o q => hst _ (fen.below (below_drewN (below1 wr o) q))
          obtain ⟨r, hr⟩ : ∃ r, rs[m]? = some r := ⟨_, List.getElem?_eq_getElem hmr⟩
          rw [hr] at f5
          simp only [Option.getD_some] at f5
          have HRS : Hid (rs[m]? = some r) := hr
          have HO : Hid (OwnS wr w2.heap.size (.slice va ys.length vc) ys) := hown
          have HBW : Hid (Below w2.heap.size w2 wr) := hB
          have HFEN : Hid (Row wr ea en) := fen
          clear hst hm hr frs hown hB fen fB
          obtain ⟨W, hW⟩ : ∃ W, wr.alloc (.cells #[.int .i64 p, .int .i64 n, .slice ta t.length tc] 36) = W := ⟨_, rfl⟩
          have hbW : Below wr.heap.size wr W := by rw [← hW]; exact below1 wr _
          have g4 : W.cell? ⟨w1.heap.size, 4, none⟩ = some (.slice (some ⟨rb, ro, none⟩) rs.length rc) := by rw [hbW.cell (World.block_lt_of_cell? _ _ f4)]; exact f4
          have g5 : W.cell? ⟨rb, ro + m, none⟩ = some (.bool r) := by rw [hbW.cell (World.block_lt_of_cell? _ _ f5)]; exact f5
          have x0 : W.cell? ⟨wr.heap.size, 0, none⟩ = some (.int .i64 p) := by rw [← hW]; simp [go_sem]
          have x1 : W.cell? ⟨wr.heap.size, 1, none⟩ = some (.int .i64 n) := by rw [← hW]; simp [go_sem]
          have x2 : W.cell? ⟨wr.heap.size, 2, none⟩ = some (.slice ta t.length tc) := by rw [← hW]; simp [go_sem]
          have HST2 : Hid (∀ q, Calls Tryd.prog 102 #[.int .i64 p, .slice ea en.length ec, .int .i64 k] (W.drewN q) fun e' w' => e' = .returned (.int .i64 m) ∧ w' = (W.drewN q)) := fun q => by
            have := HST.out (.cells #[.int .i64 p, .int .i64 n, .slice ta t.length tc] 36) q
            rw [hW] at this
            exact this
          have HWE : Hid (wr.alloc (.cells #[.int .i64 p, .int .i64 n, .slice ta t.length tc] 36) = W) := hW
          have HBB : Hid (Below wr.heap.size wr W) := hbW
          have hsz : W.heap.size = wr.heap.size + 1 := by rw [← hW]; simp
          have HSZ : Hid (W.heap.size = wr.heap.size + 1) := hsz
          clear hW hbW HST hsz
          cases r with
          | false =>
            have HC : Hid (cutN xs en rs (k + 1) = cutN xs en rs k) := cutN_drop HX.out (by simp only []; rw [HM.out]; exact HRS.out)
            go_wp2
            rw [HWE.out]
            go_quiet ((go_at_call 102; refine Calls.quiet_of_same (HST2.out _)))
            go_wp2
            go_roundw
            case rel => exact ⟨k + 1, _, ys, rfl, by go_num, by omega, OwnS.below HO.out (below_drewN HBB.out _), by rw [HC.out]; exact HYS.out, bstep' HBW.out (below_drewN HBB.out _)⟩
            case measure => simp [intOf]; omega
          | true =>
            have HC : Hid (cutN xs en rs (k + 1) = cutN xs en rs k ++ [(p, n, t)]) := cutN_keep HX.out (by simp only []; rw [HM.out]; exact HRS.out)
            go_wp2
            rw [HWE.out]
            go_quiet ((go_at_call 102; refine Calls.quiet_of_same (HST2.out _)))
            go_wp2_with fail
            refine (copyStep_any p n t ta tc _ (by have := HT4.out; omega) (HR.out.below (bstep' (HF.out _ (bstep' HBW.out HBB.out)).2.2.2 (below_drewN (Below.refl _ W) _)))).mono ?_
            rintro e w3 ⟨ta3, tc3, rfl, ot, hb3⟩
            have hb3' : Below wr.heap.size wr w3 := bstep' (below_drewN HBB.out _) hb3
            have hbP : Below wr.heap.size wr (w3.alloc (.cells #[.int .i64 p, .int .i64 n, .slice ta3 t.length tc3] 36)) := bstep' hb3' (below1 w3 _)
            have hownP := owns_below HO.out.1 hbP
            have HOT : Hid ((w3.alloc (.cells #[.int .i64 p, .int .i64 n, .slice ta3 t.length tc3] 36)).ownsRow wr.heap.size 3 1 (.slice ta3 t.length tc3) t.length (ints t)) := owns_mono (ot.alloc _) (by have := HSZ.out; simp; omega)
            have hlow : w2.heap.size ≤ wr.heap.size := HBW.out.size
            have hlow3 : wr.heap.size ≤ w3.heap.size := hb3'.size
            have HBP : Hid (Below wr.heap.size wr (w3.alloc (.cells #[.int .i64 p, .int .i64 n, .slice ta3 t.length tc3] 36))) := hbP
            clear hb3 hb3' ot hbP
            go_wp2_with (at_builtin; refine wpList_append_lies _ rfl _ _ 23 rfl w2.heap.size 36 i0 (.agg #[.int .i64 0, .int .i64 0, .slice none 0 0]) 3 40 Tryd.underlying23 hi hz0 hz1 hz2 rfl (by decide) _ _ _ rfl hownP ⟨w3.heap.size, 0, none⟩ 1 1 [.int .i64 p, .int .i64 n, .slice ta3 t.length tc3] rfl rfl (news_cells w3 #[.int .i64 p, .int .i64 n, .slice ta3 t.length tc3] 36) (by simp [Value.oneCell']) (by decide) (by unfold maxLen; omega) (by omega) (by simp; omega) (w3.heap.size + 1) (by simp) ?_)
            intro g cap w4 hown4 hgrow4 hat4 hlt4
            have HP : Hid (_) := HO.out.push3 (x := (p, n, t)) HBP.out hlow HOT.out hown4 hgrow4 (by simpa using hat4)
            have HB4 : Hid (Below w2.heap.size w2 w4) := (bstep' HBW.out HBP.out).grown hgrow4 (by simp; omega) (fun j hj => (hownP.lt j hj).1)
            clear hown4 hgrow4 hat4 hlt4 hownP
            go_wp2
            go_roundw
            case rel => exact ⟨k + 1, _, ys ++ [(((p, n, t), Value.slice ta3 t.length tc3) : SV)], rfl, by go_num, by omega, HP.out, by rw [HC.out, List.map_append, HYS.out]; rfl, HB4.out⟩
            case measure => simp [intOf] <;> omega
        · obtain rfl : k = xs.length := by omega
          have HO : Hid (OwnS wr w2.heap.size (.slice va ys.length vc) ys) := hown
          clear f4 frs fen hown
          go_wp2
          go_ret2
          exact ⟨⟨_, ys, rfl, HO.out.mono (by have := HB2.out.size; omega), HYS.out⟩, fB⟩
end Go.Proofs.YtnhdhpibdimkbaaDoor
