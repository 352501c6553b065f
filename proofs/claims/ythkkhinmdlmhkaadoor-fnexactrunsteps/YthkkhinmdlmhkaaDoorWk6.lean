/- What the program tells of all code: its heights and what is come to, or a fault with its place. -/
import Derived.Test.YthkkhinmdlmhkaaDoorWk5
import Derived.Test.YthkkhinmdlmhkaaDoorEnds2
namespace Go.Proofs.YthkkhinmdlmhkaaDoor
open Go.RowKit
set_option linter.unusedVariables false
set_option linter.unusedSimpArgs false
set_option maxRecDepth 100000

abbrev noWalk : Value := .agg #[.slice none 0 0, .int .i64 0, .bool false, .slice none 0 0, .slice none 0 0]
/-- what walkCode answers -/
def walkAns (B : Nat) (w' : World) (S : Nat → Addr) (e : Ending) : WR → Prop
  | .bad c at' => e = .returned (.tuple #[noWalk, .iface 106 (.agg #[errV S c, .int .i64 at'])]) ∧ 1 ≤ c ∧ c ≤ 4
  | .fine hs rs => ∃ ov h d hv rv, e = .returned (.tuple #[.agg #[ov, .int .i64 h, .bool d, hv, rv], .nilIface]) ∧ w'.ownsRow B 3 1 hv hs.length (ints hs) ∧ w'.ownsRow B 4 1 rv rs.length (bools rs) ∧ (hv.ownBlock = none ∨ hv.ownBlock ≠ rv.ownBlock) ∧ ∃ a n c, ov = .slice a n c

/-- what the rounds hold -/
def VK (xs : List Stp) (w0 wr : World) (B nb k : Nat) : Prop := ∃ (ov : Value) (h : Int) (d : Bool) (hv rv : Value) (o : List Frm) (hs : List Int) (rs : List Bool) (on : List Spn) (e dd : List Int),
  WS B wr nb ov h d hv rv o hs rs ∧ OkV o h ∧ hs.length = k ∧ rs.length = k ∧ o.length = on.length + 1 ∧ on.length ≤ 8 ∧ runN xs [] [] [] = runN (xs.drop k) on e dd ∧ walkV xs [(0, false)] 0 false [] [] = walkV (xs.drop k) o h d hs rs ∧ Below B w0 wr

theorem stp_dep {x : Stp} {o o' : List Spn} {e e' : List Int} (h : stp x o e = some (o', e')) : o'.length + 1 = depO x.1 (o.length + 1) ∧ (x.1 = 19 → 1 ≤ o.length) := by
  have hd := stp_depth h
  unfold depO
  cases stp_went h with
  | push ho h8 => rw [if_pos ho]; exact ⟨by simp, fun h => by rw [h] at ho; simp [opensB] at ho⟩
  | turn s ho h18 hl => rw [if_neg (by rw [ho]; decide), if_neg (by omega)]; have := congrArg List.length (last_split hl); simp at this ⊢; omega
  | shut p s t ho h19 hl => rw [if_neg (by rw [ho]; decide), if_pos h19]; have := congrArg List.length (last_split hl); simp at this ⊢; omega
  | plain ho h18 h19 => rw [if_neg (by rw [ho]; decide), if_neg h19]; exact ⟨rfl, fun h => absurd h h19⟩
theorem good_step {xs : List Stp} {k : Nat} {x : Stp} {on : List Spn} {e dd : List Int} (hg : goodS xs = true) (hr : runN xs [] [] [] = runN (xs.drop k) on e dd) (hx : xs[k]? = some x) : ∃ on' e', stp x on e = some (on', e') ∧ runN xs [] [] [] = runN (xs.drop (k + 1)) on' e' (dd ++ [(on.length : Int)]) := by
  have hd : xs.drop k = x :: xs.drop (k + 1) := by
    obtain ⟨hk, rfl⟩ := List.getElem?_eq_some_iff.1 hx
    exact List.drop_eq_getElem_cons hk
  rw [hd] at hr
  cases hs : stp x on e with
  | none =>
    rw [runN_snoc_none hs] at hr
    unfold goodS nestO at hg
    rw [hr] at hg
    split at hg <;> simp at hg
  | some p =>
    obtain ⟨on', e'⟩ := p
    exact ⟨on', e', rfl, by rw [hr, runN_snoc_some hs]⟩
theorem good_last {xs : List Stp} {on : List Spn} {e dd : List Int} (hg : goodS xs = true) (hr : runN xs [] [] [] = runN [] on e dd) : on = [] := by
  unfold goodS nestO at hg
  rw [hr] at hg
  split at hg
  · simp only [runN] at hg
    cases on with
    | nil => rfl
    | cons a r => simp at hg
  · simp at hg
theorem goodS_len {xs : List Stp} (hg : goodS xs = true) : xs.length ≤ 60 := by
  unfold goodS at hg
  cases hn : nestO xs with
  | none => rw [hn] at hg; simp at hg
  | some p => exact (nestO_length (e := p.1) (d := p.2) hn).2.2
theorem validR_bad {xs : List Stp} (h : goodS xs = false) : validR xs = .bad 1 0 := by unfold validR; unfold goodS at h; rw [h]; rfl
theorem validR_good {xs : List Stp} (h : goodS xs = true) : validR xs = walkV xs [(0, false)] 0 false [] [] := by unfold validR; unfold goodS at h; rw [h]; rfl

theorem below_set5 {B : Nat} {a w : World} (h : Below B a w) (g : Nat) (hg : B ≤ g) (u0 u1 u2 u3 u4 : Value) : Below B a (((((w.setCell ⟨g, 0, none⟩ u0).setCell ⟨g, 1, none⟩ u1).setCell ⟨g, 2, none⟩ u2).setCell ⟨g, 3, none⟩ u3).setCell ⟨g, 4, none⟩ u4) :=
  ((((h.setCell (p := ⟨g, 0, none⟩) hg u0).setCell (p := ⟨g, 1, none⟩) hg u1).setCell (p := ⟨g, 2, none⟩) hg u2).setCell (p := ⟨g, 3, none⟩) hg u3).setCell (p := ⟨g, 4, none⟩) hg u4
/-- the program's walkCode: code that is not good -/
theorem walk_shape (a : Option Addr) (c : Nat) (xs : List Stp) (S : Nat → Addr) (w : World) (hl : xs.length ≤ 1048576) (h : TRow w a xs) (hT : Tab w) (hE : Errs w S) (hg : goodS xs = false) :
    Calls Tryd.prog 58 #[.slice a xs.length c] w fun e w' => walkAns w.heap.size w' S e (validR xs) ∧ Below w.heap.size w w' := by
  rw [validR_bad hg]
  have hgd := iGoodS_any a c xs (w.alloc (.cells #[.slice none 0 0, .int .i64 0, .bool false, .slice none 0 0, .slice none 0 0] 88)) hl (h.below (below1 w _)) (hT.below (below1 w _))
  rw [hg] at hgd
  have HG : Hid (Calls Tryd.prog 66 #[.slice a xs.length c] (w.alloc (.cells #[.slice none 0 0, .int .i64 0, .bool false, .slice none 0 0, .slice none 0 0] 88)) fun e w' => e = .returned (.bool false) ∧ Below (w.alloc (.cells #[.slice none 0 0, .int .i64 0, .bool false, .slice none 0 0, .slice none 0 0] 88)).heap.size (w.alloc (.cells #[.slice none 0 0, .int .i64 0, .bool false, .slice none 0 0, .slice none 0 0] 88)) w') := hgd
  have n1 := World.new_ne w ⟨0, 0, none⟩ (hE.cell 1 (by omega) (by omega))
  have n1' : ¬ 0 = w.heap.size := fun e => n1 e.symm
  have HE : Hid (∀ W, Below w.heap.size w W → W.cell? ⟨0, 0, none⟩ = some (errV S 1)) := fun W hb => (hE.below hb).cell 1 (by omega) (by omega)
  clear hgd h hT hE hg
  go_enter Tryd.func58, Tryd.ntmps58
  go_wp2_with fail
  refine HG.out.mono ?_
  rintro e w1 ⟨rfl, hb1⟩
  have hb2 := bstep' (below1 w _) hb1
  have c1 := HE.out w1 hb2
  have x0 := hb1.cell (p := ⟨w.heap.size, 0, none⟩) (by simp)
  have x1 := hb1.cell (p := ⟨w.heap.size, 1, none⟩) (by simp)
  have x2 := hb1.cell (p := ⟨w.heap.size, 2, none⟩) (by simp)
  have x3 := hb1.cell (p := ⟨w.heap.size, 3, none⟩) (by simp)
  have x4 := hb1.cell (p := ⟨w.heap.size, 4, none⟩) (by simp)
  have y0 := hb1.frozen (p := ⟨w.heap.size, 0, none⟩) (by simp)
  have y1 := hb1.frozen (p := ⟨w.heap.size, 1, none⟩) (by simp)
  have y2 := hb1.frozen (p := ⟨w.heap.size, 2, none⟩) (by simp)
  have y3 := hb1.frozen (p := ⟨w.heap.size, 3, none⟩) (by simp)
  have y4 := hb1.frozen (p := ⟨w.heap.size, 4, none⟩) (by simp)
  simp [go_sem] at x0 x1 x2 x3 x4 y0 y1 y2 y3 y4
  have HB : Hid (_) := hb2
  clear hb1 hb2
  go_wp2
  go_region
  all_goals
    go_wp2
    refine bodyPost_ret (v := .tuple #[noWalk, .iface 106 (.agg #[errV S 1, .int .i64 0])]) (by simp [results, Tryd.results58, go_sem, *]) rfl ⟨⟨rfl, by omega, by omega⟩, (below_set5 HB.out _ (Nat.le_refl _) _ _ _ _ _).drew⟩
end Go.Proofs.YthkkhinmdlmhkaaDoor
