/- What the program tells of good code: its heights and what is come to, or a fault with its place. -/
import Derived.Test.YthkkhinmdlmhkaaDoorWk6
import Derived.Test.YthkkhinmdlmhkaaDoorRes
namespace Go.Proofs.YthkkhinmdlmhkaaDoor
open Go.RowKit
set_option linter.unusedVariables false
set_option linter.unusedSimpArgs false
set_option maxRecDepth 100000

theorem info4 : (Tryd.prog.info? 4).map (fun i => (i.zero, i.size, i.bytes)) = some (some (.bool false), 1, 1) := by kernel_rfl
theorem news_at0 (w : World) (v : Value) (t : TypeId) : ∀ j u, [v][j]? = some u → (w.alloc (.cells #[v] t)).cell? ((⟨w.heap.size, 0, none⟩ : Addr).add j) = some u := by
  refine World.news_of_block (cs := #[v]) (t := t) (fr := (0, 0)) ?_
  exact heap_alloc_new w (.cells #[v] t)
theorem walkV_bad {r : List Stp} {x : Stp} {o : List Frm} {h : Int} {d : Bool} {hs : List Int} {rs : List Bool} {c : Nat} (he : vstp x.1 o h d = .bad c) : walkV (x :: r) o h d hs rs = .bad c hs.length := by simp [walkV, he]
theorem walkV_go {r : List Stp} {x : Stp} {o o' : List Frm} {h h' : Int} {d d' : Bool} {hs : List Int} {rs : List Bool} (he : vstp x.1 o h d = .go o' h' d') : walkV (x :: r) o h d hs rs = walkV r o' h' d' (hs ++ [h]) (rs ++ [!d]) := by simp [walkV, he]
theorem slice_of_owned {w : World} {B : Nat} {e : TypeId} {size n : Nat} {v : Value} {xs : List Value} (h : w.ownsRow B e size v n xs) : ∃ a c, v = .slice a n c := by
  rcases h.2 with ⟨rfl, h0⟩ | ⟨g, cap, cur, rfl, _⟩
  · rw [h0]; exact ⟨none, 0, rfl⟩
  · exact ⟨_, cap, rfl⟩
theorem walkAns_bad {B : Nat} {w' : World} {S : Nat → Addr} {c k : Nat} {R : WR} (h : R = .bad c k) (h1 : 1 ≤ c) (h4 : c ≤ 4) : walkAns B w' S (.returned (.tuple #[noWalk, .iface 106 (.agg #[errV S c, .int .i64 k])])) R := by
  subst h
  exact ⟨rfl, h1, h4⟩
/-- the walk as it begins -/
theorem WS.made {W : World} {B nb i : Nat} (hb : W.heap[nb]? = some (.cells #[.slice (some ⟨i, 0, none⟩) 1 1, .int .i64 0, .bool false, .slice none 0 0, .slice none 0 0] 88 (0, 0))) (hi : W.heap[i]? = some (.cells #[.int .i64 0, .bool false] 108 (0, 0))) (h1 : B ≤ nb) (h2 : B ≤ i) (hne : i ≠ nb) :
    WS B W nb (.slice (some ⟨i, 0, none⟩) 1 1) 0 false (.slice none 0 0) (.slice none 0 0) [(0, false)] [] [] := by
  refine ⟨hb, h1, ?_, World.ownsRow_nil _ _ _ _, World.ownsRow_nil _ _ _ _, by simpa [Value.ownBlock] using hne, by simp [Value.ownBlock], by simp [Value.ownBlock], .inr (by simp [Value.ownBlock]), .inr (by simp [Value.ownBlock]), .inl rfl⟩
  exact ⟨rfl, .inr ⟨i, 1, _, rfl, h2, hi, by simp, by unfold maxLen; simp, rfl, rfl⟩⟩

theorem news_set0 (w : World) (g j : Nat) (v x : Value) (t : TypeId) : ∀ i u, [x][i]? = some u → ((w.setCell ⟨g, j, none⟩ v).alloc (.cells #[x] t)).cell? ((⟨w.heap.size, 0, none⟩ : Addr).add i) = some u := by
  have := news_at0 (w.setCell ⟨g, j, none⟩ v) x t
  simpa using this
theorem WS.far {B : Nat} {w w1 w2 : World} {nb : Nat} {ov : Value} {h : Int} {d : Bool} {hv rv : Value} {o : List Frm} {hs : List Int} {rs : List Bool} (k : WS B w nb ov h d hv rv o hs rs) (hb : Below w.heap.size w w1) {row : Option Nat} (hg : w1.grownBy w2 row) (hr : row ≠ some nb) :
    (w2.cell? ⟨nb, 0, none⟩ = some ov ∧ w2.cell? ⟨nb, 1, none⟩ = some (.int .i64 h) ∧ w2.cell? ⟨nb, 2, none⟩ = some (.bool d) ∧ w2.cell? ⟨nb, 3, none⟩ = some hv ∧ w2.cell? ⟨nb, 4, none⟩ = some rv) ∧ ∀ j, w2.frozen? ⟨nb, j, none⟩ = false := by
  have hn := k.heap hb
  have hgb : w2.heap[nb]? = some (.cells #[ov, .int .i64 h, .bool d, hv, rv] 88 (0, 0)) := by
    rw [hg.block nb hn.lt (fun e => hr e.symm)]; exact hn.blk
  refine ⟨⟨?_, ?_, ?_, ?_, ?_⟩, fun j => frozen_of_row w2 nb j _ 88 hgb⟩ <;> rw [cell_of_row w2 nb _ _ 88 (0, 0) hgb] <;> rfl

theorem own_set5 {w : World} {B n : Nat} {e : TypeId} {size : Nat} {v : Value} {xs : List Value} (h : w.ownsRow B e size v n xs) {g : Nat} (hg : g < B) (u0 u1 u2 u3 u4 : Value) : (((((w.setCell ⟨g, 0, none⟩ u0).setCell ⟨g, 1, none⟩ u1).setCell ⟨g, 2, none⟩ u2).setCell ⟨g, 3, none⟩ u3).setCell ⟨g, 4, none⟩ u4).ownsRow B e size v n xs :=
  ownsRow_setCell_below (ownsRow_setCell_below (ownsRow_setCell_below (ownsRow_setCell_below (ownsRow_setCell_below h (by simpa using hg) _) (by simpa using hg) _) (by simpa using hg) _) (by simpa using hg) _) (by simpa using hg) _
set_option maxHeartbeats 16000000 in
/-- the program's walkCode: good code -/
theorem walk_good (a : Option Addr) (c : Nat) (xs : List Stp) (S : Nat → Addr) (w : World) (hl : xs.length ≤ 1048576) (h : TRow w a xs) (hT : Tab w) (hE : Errs w S) (hg : goodS xs = true) :
    Calls Tryd.prog 58 #[.slice a xs.length c] w fun e w' => walkAns w.heap.size w' S e (validR xs) ∧ Below w.heap.size w w' := by
  have h60 := goodS_len hg
  obtain ⟨i3, hi3, hz30, hz31, hz32⟩ := info_parts info3
  obtain ⟨i4, hi4, hz40, hz41, hz42⟩ := info_parts info4
  generalize hR : validR xs = R
  have HRV : Hid (walkV xs [(0, false)] 0 false [] [] = R) := by show _ = _; rw [← validR_good hg]; exact hR
  clear hR
  have hgd := iGoodS_any a c xs (w.alloc (.cells #[.slice none 0 0, .int .i64 0, .bool false, .slice none 0 0, .slice none 0 0] 88)) hl (h.below (below1 w _)) (hT.below (below1 w _))
  rw [hg] at hgd
  have HG : Hid (Calls Tryd.prog 66 #[.slice a xs.length c] (w.alloc (.cells #[.slice none 0 0, .int .i64 0, .bool false, .slice none 0 0, .slice none 0 0] 88)) fun e w' => e = .returned (.bool true) ∧ Below (w.alloc (.cells #[.slice none 0 0, .int .i64 0, .bool false, .slice none 0 0, .slice none 0 0] 88)).heap.size (w.alloc (.cells #[.slice none 0 0, .int .i64 0, .bool false, .slice none 0 0, .slice none 0 0] 88)) w') := hgd
  have HGD : Hid (goodS xs = true) := hg
  have HE : Hid (Errs w S) := hE
  have HT : Hid (Tab w) := hT
  have H : Hid (TRow w a xs) := h
  clear hgd h hT hE hg
  go_enter Tryd.func58, Tryd.ntmps58
  go_wp2_with fail
  refine HG.out.mono ?_
  rintro e w1 ⟨rfl, hb1⟩
  have hs0 : (w.alloc (.cells #[.slice none 0 0, .int .i64 0, .bool false, .slice none 0 0, .slice none 0 0] 88)).heap.size = w.heap.size + 1 := size_alloc1 w _
  rw [hs0] at hb1
  have hle1 : w.heap.size + 1 ≤ w1.heap.size := by have := hb1.size; rw [hs0] at this; exact this
  have HW0 : Hid (∀ W, Below (w.heap.size + 1) (w.alloc (.cells #[.slice none 0 0, .int .i64 0, .bool false, .slice none 0 0, .slice none 0 0] 88)) W → (Below w.heap.size w W ∧ w.heap.size + 1 ≤ W.heap.size) ∧ (W.cell? ⟨w.heap.size, 0, none⟩ = some (.slice none 0 0) ∧ W.cell? ⟨w.heap.size, 1, none⟩ = some (.int .i64 0) ∧ W.cell? ⟨w.heap.size, 2, none⟩ = some (.bool false) ∧ W.cell? ⟨w.heap.size, 3, none⟩ = some (.slice none 0 0) ∧ W.cell? ⟨w.heap.size, 4, none⟩ = some (.slice none 0 0)) ∧ (W.frozen? ⟨w.heap.size, 0, none⟩ = false ∧ W.frozen? ⟨w.heap.size, 1, none⟩ = false ∧ W.frozen? ⟨w.heap.size, 2, none⟩ = false ∧ W.frozen? ⟨w.heap.size, 3, none⟩ = false ∧ W.frozen? ⟨w.heap.size, 4, none⟩ = false)) := by
    intro W hb
    have hc : ∀ j, W.cell? ⟨w.heap.size, j, none⟩ = (w.alloc (.cells #[.slice none 0 0, .int .i64 0, .bool false, .slice none 0 0, .slice none 0 0] 88)).cell? ⟨w.heap.size, j, none⟩ := fun j => hb.cell (p := ⟨w.heap.size, j, none⟩) (by simp)
    have hf : ∀ j, W.frozen? ⟨w.heap.size, j, none⟩ = (w.alloc (.cells #[.slice none 0 0, .int .i64 0, .bool false, .slice none 0 0, .slice none 0 0] 88)).frozen? ⟨w.heap.size, j, none⟩ := fun j => hb.frozen (p := ⟨w.heap.size, j, none⟩) (by simp)
    refine ⟨⟨(below1 w _).trans (hb.mono (by omega)), by have := hb.size; rw [hs0] at this; exact this⟩, ⟨?_, ?_, ?_, ?_, ?_⟩, ?_, ?_, ?_, ?_, ?_⟩
    all_goals first | (rw [hc]; simp [go_sem]; done) | (rw [hf]; simp [go_sem]; done)
  generalize hw0 : w.alloc (.cells #[.slice none 0 0, .int .i64 0, .bool false, .slice none 0 0, .slice none 0 0] 88) = w0 at hb1 HW0
  have HB1 : Hid (Below (w.heap.size + 1) w0 w1) := hb1
  clear hb1 hw0 hs0
  have HST : Hid (VK xs w0 ((w1.alloc (.cells #[.int .i64 0, .bool false] 108)).alloc (.cells #[.slice (some ⟨w1.heap.size, 0, none⟩) 1 1, .int .i64 0, .bool false, .slice none 0 0, .slice none 0 0] 88)) (w.heap.size + 1) (w1.heap.size + 1) 0) := by
    refine ⟨_, _, _, _, _, [(0, false)], [], [], [], [], [], WS.made (i := w1.heap.size) ?_ ?_ (by omega) hle1 (by omega), OkV.start, rfl, rfl, rfl, by simp, rfl, rfl, (HB1.out.alloc hle1 _).alloc (by simp; omega) _⟩
    · have := heap_alloc_new (w1.alloc (.cells #[.int .i64 0, .bool false] 108)) (.cells #[.slice (some ⟨w1.heap.size, 0, none⟩) 1 1, .int .i64 0, .bool false, .slice none 0 0, .slice none 0 0] 88)
      rw [size_alloc1] at this; exact this
    · rw [Below.heap_alloc _ _ _ (by simp)]; exact heap_alloc_new w1 _
  go_wp2
  go_loopw [21] (fun t21 wr => ∃ (k : Nat), t21 = .int .i64 k ∧ k ≤ xs.length ∧ VK xs w0 wr (w.heap.size + 1) (w1.heap.size + 1) k) (fun t21 _ => xs.length - (intOf t21).toNat)
  case atStart => exact ⟨0, rfl, by omega, HST.out⟩
  case round =>
    obtain ⟨nb, hnb⟩ : ∃ nb, w1.heap.size + 1 = nb := ⟨_, rfl⟩
    rw [hnb] at hrel ⊢
    obtain ⟨k, rfl, hk, ov, h, d, hv, rv, o, hs, rs, on, en, dd, hws, hok, hhs, hrs, hol, h8, hrun, hwalk, hB⟩ := hrel
    have hnbB : w.heap.size + 1 ≤ nb := by omega
    clear hnb HST HB1
    have HRun : Hid (runN xs [] [] [] = runN (xs.drop k) on en dd) := hrun
    have HWk : Hid (walkV xs [(0, false)] 0 false [] [] = walkV (xs.drop k) o h d hs rs) := hwalk
    have HOK : Hid (OkV o h) := hok
    have HL : Hid (hs.length = k ∧ rs.length = k) := ⟨hhs, hrs⟩
    have HON : Hid (o.length = on.length + 1 ∧ on.length ≤ 8) := ⟨hol, h8⟩
    clear hrun hwalk hok hhs hrs hol h8
    by_cases hlt : k < xs.length
    · obtain ⟨b, off, rfl, hat⟩ := H.out.at (by intro h0; rw [h0] at hlt; simp at hlt)
      obtain ⟨p, n, t, ta, tc, c1, c2, c3, hbw, htl, HR, HX⟩ := hat wr (HW0.out wr hB).1.1 k hlt
      obtain ⟨on', en', hstp, hrun'⟩ := good_step HGD.out HRun.out HX.out
      have hone : oneS (p, n, t) = true := by
        cases h1 : oneS (p, n, t) with
        | true => rfl
        | false => rw [stp_one h1] at hstp; cases hstp
      have HD : Hid (xs.drop k = (p, n, t) :: xs.drop (k + 1)) := by
        obtain ⟨hk', he⟩ := List.getElem?_eq_some_iff.1 HX.out
        show _ = _
        rw [← he]; exact List.drop_eq_getElem_cons hk'
      have HS' : Hid (stp (p, n, t) on en = some (on', en') ∧ runN xs [] [] [] = runN (xs.drop (k + 1)) on' en' (dd ++ [(on.length : Int)])) := ⟨hstp, hrun'⟩
      clear hstp hrun' hat
      have hbr : b < wr.heap.size := Nat.lt_of_lt_of_le hbw (HW0.out wr hB).1.1.size
      obtain ⟨n0, n1, n2, n3, n4⟩ := hws.cells
      have hnl := hws.lt
      have hwB := (HW0.out wr hB).1.2
      obtain ⟨ha, hc, rfl⟩ := slice_of_owned hws.hts
      obtain ⟨ra, rc, rfl⟩ := slice_of_owned hws.rch
      have hhown := hws.hts
      have HWS : Hid (_) := hws
      have HHB : Hid (Below (w.heap.size + 1) w0 wr) := hB
      clear hws hB n0
      go_wp2_with (at_builtin; refine wpList_append_lies _ rfl _ _ 23 rfl (w.heap.size + 1) 3 i3 (.int .i64 0) 1 8 Tryd.underlying23 hi3 hz30 hz31 hz32 rfl (by decide) _ _ _ rfl ((hhown.alloc _).alloc _) ⟨wr.heap.size + 1, 0, none⟩ 1 1 [.int .i64 h] rfl rfl (news_at1 wr _ _ 3) (by simp [Value.oneCell']) (by decide) (by rw [HL.out.1]; unfold maxLen; omega) (by rw [HL.out.1]; omega) (by simp; omega) (wr.heap.size + 1 + 1) (by simp) ?_)
      intro g2 cap2 w2 hown2 hgrow2 hat2 hlt2
      obtain ⟨⟨-, m1, m2, m3, m4⟩, mf⟩ := HWS.out.far (below2 wr _ _) hgrow2 HWS.out.a2
      have mf3 := mf 3
      have hsz2 : wr.heap.size + 2 ≤ w2.heap.size := by have := hgrow2.size; simp at this; omega
      have hnr : some wr.heap.size ≠ (Value.slice ha hs.length hc).ownBlock := fun e => by have := (HWS.out.hts.lt wr.heap.size e.symm).2; omega
      have s0 : w2.cell? ⟨wr.heap.size, 0, none⟩ = some (.int .i64 p) := by rw [hgrow2.cell_far _ (by simp <;> omega) hnr]; simp [go_sem]
      have s1 : w2.cell? ⟨wr.heap.size, 1, none⟩ = some (.int .i64 n) := by rw [hgrow2.cell_far _ (by simp <;> omega) hnr]; simp [go_sem]
      have s2 : w2.cell? ⟨wr.heap.size, 2, none⟩ = some (.slice ta t.length tc) := by rw [hgrow2.cell_far _ (by simp <;> omega) hnr]; simp [go_sem]
      have q1 := HWS.out.pushH h (below2 wr _ _) hown2 hgrow2 (by rcases hat2 with h | h; exact .inl h; exact .inr (by omega))
      have hrown := q1.1.rch
      have HQ1 : Hid (_) := q1
      have e7 : ¬ wr.heap.size = nb := by omega
      have e8 : ¬ nb = wr.heap.size := by omega
      clear q1 hown2 hgrow2 hat2 hlt2 mf hhown n1 n2 n3 n4 c1 c2 c3 hnr
      go_wp2_with (at_builtin; refine wpList_append_lies _ rfl _ _ 49 rfl (w.heap.size + 1) 4 i4 (.bool false) 1 1 Tryd.underlying49 hi4 hz40 hz41 hz42 rfl (by decide) _ _ _ rfl (hrown.alloc _) ⟨w2.heap.size, 0, none⟩ 1 1 [.bool (!d)] rfl rfl (news_set0 w2 _ _ _ _ 4) (by simp [Value.oneCell']) (by decide) (by rw [HL.out.2]; unfold maxLen; omega) (by rw [HL.out.2]; omega) (by simp; omega) (w2.heap.size + 1) (by simp) ?_)
      intro g3 cap3 w3 hown3 hgrow3 hat3 hlt3
      obtain ⟨⟨-, -, -, -, l4⟩, lf⟩ := HQ1.out.1.far (below1 _ _) hgrow3 HQ1.out.1.a3
      have lf4 := lf 4
      have hsz3 : w2.heap.size + 1 ≤ w3.heap.size := by have := hgrow3.size; simp at this; omega
      have hnr : some wr.heap.size ≠ (Value.slice ra rs.length rc).ownBlock := fun e => by have := (HWS.out.rch.lt wr.heap.size e.symm).2; omega
      have r0 : w3.cell? ⟨wr.heap.size, 0, none⟩ = some (.int .i64 p) := by rw [hgrow3.cell_far _ (by simp <;> omega) hnr, (below1 _ _).cell (by simp <;> omega)]; simp [go_sem, e7, e8, s0]
      have r1 : w3.cell? ⟨wr.heap.size, 1, none⟩ = some (.int .i64 n) := by rw [hgrow3.cell_far _ (by simp <;> omega) hnr, (below1 _ _).cell (by simp <;> omega)]; simp [go_sem, e7, e8, s1]
      have r2 : w3.cell? ⟨wr.heap.size, 2, none⟩ = some (.slice ta t.length tc) := by rw [hgrow3.cell_far _ (by simp <;> omega) hnr, (below1 _ _).cell (by simp <;> omega)]; simp [go_sem, e7, e8, s2]
      have q2 := HQ1.out.1.pushR (!d) (below1 _ _) hown3 hgrow3 (by rcases hat3 with h | h; exact .inl h; exact .inr (by simp; omega))
      have HQ2 : Hid (_) := q2.1
      have HB2 : Hid (Below (w.heap.size + 1) w0 (w3.setCell ⟨nb, 4, none⟩ (.slice (some ⟨g3, 0, none⟩) (rs.length + 1) cap3))) := (HHB.out.trans HQ1.out.2).trans q2.2
      clear q2 hown3 hgrow3 hat3 hlt3 lf hnr hrown m1 m2 m3 m4 mf3 s0 s1 s2
      go_wp2_with fail
      refine (wkPass_any (w.heap.size + 1) nb ov h d _ _ o (hs ++ [h]) (rs ++ [!d]) S _ HQ2.out (HE.out.below (HW0.out _ HB2.out).1.1) (fun j h1 h4 => ⟨by have := World.block_lt_of_cell? w _ (HE.out.cell j h1 h4); simp only [] at this; omega, by obtain ⟨cj, tj, ej⟩ := HE.out.blk j h1 h4; have := (Array.getElem?_eq_some_iff.1 ej).1; omega⟩) (HT.out.below (HW0.out _ HB2.out).1.1) HOK.out (by have := HON.out; omega) p n t ta tc htl (HR.out.below (HW0.out _ HB2.out).1.1) hone).mono ?_
      rintro e5 w5 ⟨ha5, hb5⟩
      have HB5 : Hid (Below (w.heap.size + 1) w0 w5) := HB2.out.trans hb5
      clear hb5 l4 lf4 r0 r1 r2
      cases hvs : vstp p o h d with
      | bad cc =>
        rw [hvs] at ha5
        obtain ⟨rfl, hc1, hc4⟩ := ha5
        have HVS : Hid (vstp p o h d = .bad cc) := hvs
        clear hvs
        have HRB : Hid (R = .bad cc k) := by show _ = _; rw [← HRV.out, HWk.out, HD.out, walkV_bad (x := (p, n, t)) HVS.out, HL.out.1]
        obtain ⟨-, ⟨x0, x1, x2, x3, x4⟩, y0, y1, y2, y3, y4⟩ := HW0.out w5 HB5.out
        go_wp2
        refine bodyPost_ret (v := .tuple #[noWalk, .iface 106 (.agg #[errV S cc, .int .i64 k])]) (res_block_tmp (cs := [.slice none 0 0, .int .i64 0, .bool false, .slice none 0 0, .slice none 0 0]) Tryd.results58 _ _ w.heap.size _ rfl rfl (agg113 _) (size113 _) (set5_cells _ _ _ _ _ _ _ _ _ _ _ _ x0 x1 x2 x3 x4)) rfl ⟨walkAns_bad HRB.out hc1 hc4, below_set5 (HW0.out w5 HB5.out).1.1 _ (Nat.le_refl _) _ _ _ _ _⟩
      | go o' h' d' =>
        rw [hvs] at ha5
        obtain ⟨rfl, ov', hws'⟩ := ha5
        have HVS : Hid (vstp p o h d = .go o' h' d') := hvs
        have HWS' : Hid (_) := hws'
        clear hvs hws'
        go_wp2
        go_roundw
        case rel =>
          have hdep := stp_dep HS'.out.1
          have hon := HON.out
          have hvo := vstp_ok HOK.out (fun h19 => by have := hdep.2 h19; omega) HVS.out
          refine ⟨k + 1, by go_num, by omega, ov', h', d', _, _, o', hs ++ [h], rs ++ [!d], on', en', dd ++ [(on.length : Int)], HWS'.out, hvo.1, by simp [HL.out.1], by simp [HL.out.2], ?_, stp_le8 HS'.out.1 hon.2, HS'.out.2, ?_, HB5.out⟩
          · rw [hvo.2, hon.1, ← hdep.1]
          · rw [HWk.out, HD.out, walkV_go (x := (p, n, t)) HVS.out]
        case measure => simp [intOf]; omega
    · obtain rfl : k = xs.length := by omega
      have HWE : Hid (R = if h = (inn o).1 then .fine (hs ++ [h]) rs else .bad 3 hs.length) := by
        show _ = _
        rw [← HRV.out, HWk.out, List.drop_of_length_le (Nat.le_refl _)]
        rfl
      have h0 : 0 < o.length := HOK.out.pos
      have h9 : o.length ≤ 9 := by have := HON.out; omega
      obtain ⟨n0, n1, n2, n3, n4⟩ := hws.cells
      have hnl := hws.lt
      have hwB := (HW0.out wr hB).1.2
      obtain ⟨ha, hc, rfl⟩ := slice_of_owned hws.hts
      obtain ⟨oa, oc, rfl⟩ := slice_of_owned hws.opn
      obtain ⟨ra, rc, rfl⟩ := slice_of_owned hws.rch
      have hhown := hws.hts
      have HWS : Hid (_) := hws
      have HHB : Hid (Below (w.heap.size + 1) w0 wr) := hB
      clear hws hB n0 HWk
      go_wp2_with (at_builtin; refine wpList_append_lies _ rfl _ _ 23 rfl (w.heap.size + 1) 3 i3 (.int .i64 0) 1 8 Tryd.underlying23 hi3 hz30 hz31 hz32 rfl (by decide) _ _ _ rfl (hhown.alloc _) ⟨wr.heap.size, 0, none⟩ 1 1 [.int .i64 h] rfl rfl (news_at0 wr _ 3) (by simp [Value.oneCell']) (by decide) (by rw [HL.out.1]; unfold maxLen; omega) (by rw [HL.out.1]; omega) (by simp; omega) (wr.heap.size + 1) (by simp) ?_)
      intro g2 cap2 w2 hown2 hgrow2 hat2 hlt2
      obtain ⟨⟨-, -, -, m3, -⟩, mf⟩ := HWS.out.far (below1 wr _) hgrow2 HWS.out.a2
      have mf3 := mf 3
      have q1 := HWS.out.pushH h (below1 wr _) hown2 hgrow2 (by rcases hat2 with h | h; exact .inl h; exact .inr (by omega))
      have HQ1 : Hid (_) := q1.1
      have HB2 : Hid (Below (w.heap.size + 1) w0 (w2.setCell ⟨nb, 3, none⟩ (.slice (some ⟨g2, 0, none⟩) (hs.length + 1) cap2))) := HHB.out.trans q1.2
      clear q1 hown2 hgrow2 hat2 hlt2 mf hhown n1 n2 n3 n4
      by_cases heq : h = (inn o).1
      · have hset := settle_any (w.heap.size + 1) nb _ h d _ _ o (hs ++ [h]) rs S _ HQ1.out (HE.out.below (HW0.out _ HB2.out).1.1) h0 h9
        rw [if_pos heq] at hset
        have HSET : Hid (Calls Tryd.prog 68 #[.pointer (some ⟨nb, 0, none⟩)] (w2.setCell ⟨nb, 3, none⟩ (.slice (some ⟨g2, 0, none⟩) (hs.length + 1) cap2)) fun e w' => e = .returned .nilIface ∧ Below (w2.setCell ⟨nb, 3, none⟩ (.slice (some ⟨g2, 0, none⟩) (hs.length + 1) cap2)).heap.size (w2.setCell ⟨nb, 3, none⟩ (.slice (some ⟨g2, 0, none⟩) (hs.length + 1) cap2)) w') := hset
        have HEQ : Hid (h = (inn o).1) := heq
        clear hset heq
        go_wp2_with fail
        refine HSET.out.mono ?_
        rintro e3 w3 ⟨rfl, hb3⟩
        have hws3 := HQ1.out.heap hb3
        have HB3 : Hid (Below (w.heap.size + 1) w0 w3) := HB2.out.trans (hb3.mono (HW0.out _ HB2.out).1.2)
        clear hb3
        obtain ⟨-, ⟨x0, x1, x2, x3, x4⟩, y0, y1, y2, y3, y4⟩ := HW0.out w3 HB3.out
        obtain ⟨n0, n1, n2, n3, n4⟩ := hws3.cells
        have HO3 : Hid (w3.ownsRow (w.heap.size + 1) 3 1 (.slice (some ⟨g2, 0, none⟩) (hs.length + 1) cap2) (hs ++ [h]).length (ints (hs ++ [h])) ∧ w3.ownsRow (w.heap.size + 1) 4 1 (.slice ra rs.length rc) rs.length (bools rs) ∧ ((Value.slice (some ⟨g2, 0, none⟩) (hs.length + 1) cap2).ownBlock = none ∨ (Value.slice (some ⟨g2, 0, none⟩) (hs.length + 1) cap2).ownBlock ≠ (Value.slice ra rs.length rc).ownBlock)) := ⟨hws3.hts, hws3.rch, hws3.b3⟩
        clear hws3 m3 mf3
        go_wp2
        refine bodyPost_ret (v := .tuple #[.agg #[.slice oa o.length oc, .int .i64 h, .bool d, .slice (some ⟨g2, 0, none⟩) (hs.length + 1) cap2, .slice ra rs.length rc], .nilIface]) (by simp [results, Tryd.results58, go_sem, *]) rfl ⟨?_, below_set5 (HW0.out w3 HB3.out).1.1 _ (Nat.le_refl _) _ _ _ _ _⟩
        rw [HWE.out, if_pos HEQ.out]
        exact ⟨_, _, _, _, _, rfl, owns_mono (own_set5 HO3.out.1 (by omega) _ _ _ _ _) (by omega), owns_mono (own_set5 HO3.out.2.1 (by omega) _ _ _ _ _) (by omega), HO3.out.2.2, _, _, _, rfl⟩
      · have hset := settle_any (w.heap.size + 1) nb _ h d _ _ o (hs ++ [h]) rs S _ HQ1.out (HE.out.below (HW0.out _ HB2.out).1.1) h0 h9
        rw [if_neg heq] at hset
        have HSET : Hid (Calls Tryd.prog 68 #[.pointer (some ⟨nb, 0, none⟩)] (w2.setCell ⟨nb, 3, none⟩ (.slice (some ⟨g2, 0, none⟩) (hs.length + 1) cap2)) fun e w' => e = .returned (errV S 3) ∧ Below (w2.setCell ⟨nb, 3, none⟩ (.slice (some ⟨g2, 0, none⟩) (hs.length + 1) cap2)).heap.size (w2.setCell ⟨nb, 3, none⟩ (.slice (some ⟨g2, 0, none⟩) (hs.length + 1) cap2)) w') := hset
        have HEQ : Hid (¬ h = (inn o).1) := heq
        clear hset heq
        go_wp2_with fail
        refine HSET.out.mono ?_
        rintro e3 w3 ⟨rfl, hb3⟩
        have HB3 : Hid (Below (w.heap.size + 1) w0 w3) := HB2.out.trans (hb3.mono (HW0.out _ HB2.out).1.2)
        clear hb3
        obtain ⟨-, ⟨x0, x1, x2, x3, x4⟩, y0, y1, y2, y3, y4⟩ := HW0.out w3 HB3.out
        clear m3 mf3
        go_wp2
        refine bodyPost_ret (v := .tuple #[noWalk, .iface 106 (.agg #[errV S 3, .int .i64 xs.length])]) (res_block_tmp (cs := [.slice none 0 0, .int .i64 0, .bool false, .slice none 0 0, .slice none 0 0]) Tryd.results58 _ _ w.heap.size _ rfl rfl (agg113 _) (size113 _) (set5_cells _ _ _ _ _ _ _ _ _ _ _ _ x0 x1 x2 x3 x4)) rfl ⟨?_, below_set5 (HW0.out w3 HB3.out).1.1 _ (Nat.le_refl _) _ _ _ _ _⟩
        exact walkAns_bad (by rw [HWE.out, if_neg HEQ.out, HL.out.1]) (by omega) (by omega)
end Go.Proofs.YthkkhinmdlmhkaaDoor
