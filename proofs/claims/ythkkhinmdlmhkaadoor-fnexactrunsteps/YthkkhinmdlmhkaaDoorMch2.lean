/- The model's way out, and where its WIf goes on at 0. -/
import Derived.Test.YthkkhinmdlmhkaaDoorMch
import Derived.Deep.RegionHeld
import Derived.Deep.RegionHeldLaw
namespace Go.Proofs.YthkkhinmdlmhkaaDoor
open Go.RowKit
set_option linter.unusedVariables false
set_option linter.unusedSimpArgs false
set_option maxRecDepth 100000

theorem grown_drew {w w' : World} {r : Option Nat} (h : w.grownBy w' r) : w.grownBy w'.drew r := ⟨h.os, h.tape, h.output, h.size, h.block⟩
theorem grown_tr {a b c : World} {row : Option Nat} (h : a.grownBy b row) (k : b.grownBy c row) : a.grownBy c row :=
  ⟨k.os.trans h.os, k.tape.trans h.tape, k.output.trans h.output, Nat.le_trans h.size k.size, fun i hi hne => (k.block i (Nat.lt_of_lt_of_le hi h.size) hne).trans (h.block i hi hne)⟩
theorem MSp.setS0 {R : List OR} {xs : List Stp} {en hs : List Int} {a ea ha : Option Addr} {ac ec hc : Nat} {w0 : World} {mb : Nat} {W : World} {c : Cf} {lv mv tv : Value} (h : MSp R xs en hs a ea ha ac ec hc w0 mb W c lv mv tv (.slice none 0 0)) (h0 : c.st.length = 0) : MSp R xs en hs a ea ha ac ec hc w0 mb (W.setCell ⟨mb, 6, none⟩ (.slice none 0 0)) c lv mv tv (.slice none 0 0) := by
  have := h.sep.put [] 6 (.slice none 0 0)
  exact ⟨this.1, h.bel.trans this.2⟩
set_option maxHeartbeats 4000000 in
/-- the model's branch -/
theorem sBranch_any {R : List OR} (xs : List Stp) (en hs : List Int) (a ea ha : Option Addr) (ac ec hc : Nat) (w0 : World) (mb : Nat) (W : World) (c : Cf) (lv mv tv sv : Value) (h : MSp R xs en hs a ea ha ac ec hc w0 mb W c lv mv tv sv) (k dep q : Nat) (b : Nat) (hT : TRow w0 a xs) (hR : Row w0 ea en) (hH : Row w0 ha hs) (hl : xs.length ≤ 60) (hel : en.length = xs.length) (hhl : hs.length ≤ 61) (hE : ∀ v ∈ en, v ≤ 60 ∧ -60 ≤ v) (hk : k ≤ xs.length) (hdep : dep ≤ 100)
    (hq : specT xs en k k dep = (q : Int)) (hqh : hs[q]? = some (b : Int)) (hb : b ≤ c.st.length) (h9 : c.st.length ≤ 9) :
    Calls Tryd.prog 56 #[.pointer (some ⟨mb, 0, none⟩), .int .i64 k, .int .i64 dep] W fun e W' => e = .returned (.tuple #[]) ∧ (∃ sv', MSp R xs en hs a ea ha ac ec hc w0 mb W' { c with pc := q, st := c.st.take b } lv mv tv sv') ∧ W.grownBy W' (some mb) := by
  have HX : Hid (Calls Tryd.prog 64 #[.slice a xs.length ac, .slice ea en.length ec, .int .i64 k, .int .i64 dep] W.drew fun e w' => e = .returned (.int .i64 q) ∧ w' = W.drew) := by
    have := l3Target_any a ac xs ea ec en k dep W.drew hl hel hk (by omega) hE (show TRow W a xs from hT.below h.bel) (show Row W ea en from hR.below h.bel)
    rw [hq] at this
    exact this
  obtain ⟨hb', hoff, rfl, hcell⟩ : ∃ hb' hoff, ha = some ⟨hb', hoff, none⟩ ∧ w0.cell? ⟨hb', hoff + q, none⟩ = some (.int .i64 b) := by
    rcases hH with h0 | ⟨b1, o1, rfl, hc1⟩
    · rw [h0] at hqh; simp at hqh
    · have hql := (List.getElem?_eq_some_iff.1 hqh).1
      have := hc1 q hql
      rw [hqh] at this
      exact ⟨b1, o1, rfl, this⟩
  have hql := (List.getElem?_eq_some_iff.1 hqh).1
  have hbw : hb' < w0.heap.size := World.block_lt_of_cell? w0 _ hcell
  obtain ⟨c0, c1, c2, c3, c4, c5, c6, c7⟩ := h.cells
  have f6 := h.frz 6
  have f7 := h.frz 7
  have hlt := h.lt
  have hcW : W.cell? ⟨hb', hoff + q, none⟩ = some (.int .i64 b) := by rw [h.bel.cell (p := ⟨hb', hoff + q, none⟩) hbw]; exact hcell
  have hne : ¬ hb' = mb := by omega
  have hne' : ¬ mb = hb' := by omega
  have hbW : hb' < W.heap.size := Nat.lt_of_lt_of_le hbw h.bel.size
  have H2 := h.setPc q
  have HK : Hid ((W.setCell ⟨mb, 7, none⟩ (.int .i64 q)).drew.cell? ⟨mb, 0, none⟩ = some (.slice a xs.length ac) ∧ (W.setCell ⟨mb, 7, none⟩ (.int .i64 q)).drew.cell? ⟨mb, 1, none⟩ = some (.slice ea en.length ec)) := ⟨H2.cells.1, H2.cells.2.1⟩
  have H := hid H2
  clear H2
  have HW0 := hid hcell
  have HQ := hid (And.intro hel (And.intro hqh hql))
  have hq60 : q ≤ 60 := by omega
  have hqI : (q : Int) < hs.length := by omega
  clear h hT hR hH hE hq hcell hel hqh c3 c4 c5 hk hl hhl
  go_enter Tryd.func56, Tryd.ntmps56
  go_wp2
  go_region_held (fun w' => w'.cell? ⟨mb, 0, none⟩ = some (.slice a xs.length ac) ∧ w'.cell? ⟨mb, 1, none⟩ = some (.slice ea en.length ec)) ((first | exact HK.out | go_keep)) ((go_at_call 64; refine Calls.mono HX.out ?_; rintro e w1 ⟨rfl, rfl⟩))
  all_goals
    have H3 : MSp R xs en hs a ea (some ⟨hb', hoff, none⟩) ac ec hc w0 mb (W.setCell ⟨mb, 7, none⟩ (.int .i64 q)).drew { c with pc := q } lv mv tv sv := H.out.below (Below.refl _ _).drew
    have hcX : (W.setCell ⟨mb, 7, none⟩ (.int .i64 q)).drew.cell? ⟨hb', hoff + q, none⟩ = some (.int .i64 b) := by rw [H3.bel.cell (p := ⟨hb', hoff + q, none⟩) (by omega)]; exact HW0.out
    have hgX : W.grownBy (W.setCell ⟨mb, 7, none⟩ (.int .i64 q)).drew (some mb) := grown_drew (grown_set W mb 7 _)
    generalize (W.setCell ⟨mb, 7, none⟩ (.int .i64 q)).drew = X at H3 hcX hgX
    have HG := hid hgX
    clear hgX
    obtain ⟨c0, c1, c2, c3, c4, c5, c6, c7⟩ := H3.cells
    have f6 := H3.frz 6
    have hlt := H3.lt
    clear c0 c1 c3 c4 c5 H HK HX hcW
    rcases H3.rows.2.2.2.2 with ⟨rfl, h0⟩ | ⟨g, cap, cur, rfl, hB, hg, hcap, hm, hsz, htk⟩
    · have hb0 : b = 0 := by simp only [] at h0; omega
      subst hb0
      have hst : c.st = [] := List.eq_nil_of_length_eq_zero h0
      have HN := hid (H3.setS0 h0)
      have HM := hid (show MSp R xs en hs a ea (some ⟨hb', hoff, none⟩) ac ec hc w0 mb (X.setCell ⟨mb, 6, none⟩ (.slice none 0 0)).drew { c with pc := q, st := c.st.take 0 } lv mv tv (.slice none 0 0) by
        have := HN.out.below (Below.refl _ _).drew
        simpa [hst] using this)
      clear H3 h0 hst HN hb h9
      go_wp2
      go_region
      all_goals
        go_wp2
        exact bodyPost_end (v := .tuple #[]) (by simp [results, Tryd.results56, go_sem]) rfl ⟨rfl, ⟨_, HM.out⟩, grown_drew (grown_tr HG.out (grown_set X mb 6 _))⟩
    · have HC := hid (H3.cutSt (m := b) hb)
      have HM := hid (HC.out.below (Below.refl _ _).drew)
      have hn : c.st.length ≤ cap := hcap
      have hbI : (b : Int) ≤ cap := by omega
      have hbn : b ≤ cap := by omega
      clear hg hm hsz htk H3 HC hcap
      go_wp2
      go_region
      all_goals
        go_wp2
        exact bodyPost_end (v := .tuple #[]) (by simp [results, Tryd.results56, go_sem]) rfl ⟨rfl, ⟨_, HM.out⟩, grown_drew (grown_tr HG.out (grown_set X mb 6 _))⟩
end Go.Proofs.YthkkhinmdlmhkaaDoor
