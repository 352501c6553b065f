/- Lists of lists that grow; a graph copied by the program; a list without a number, by the model. -/
import Derived.Test.YtiadmmnnbnamjaaGreatSet7
import Derived.Deep.RegionHeldLaw
import Derived.Deep.RegionLaw
namespace Go.Proofs.YtiadmmnnbnamjaaGreat
open Go.RowKit
set_option linter.unusedVariables false
set_option linter.unusedSimpArgs false
set_option maxRecDepth 100000

theorem eltLists : Elt 23 35 1 24 := by
  obtain ⟨i0, hi, hz0, hz1, hz2⟩ := info_parts info40
  exact ⟨i0, .slice none 0 0, Tryz.underlying23, hi, hz0, hz1, hz2, by simp [Value.cells], by omega, by omega⟩
theorem step_append_sep {T e : TypeId} {size bytes : Nat} (E : Elt T e size bytes) {w : World} {ops : Array Oper} {o : Oper} {a : Act} {K : Act → World → Prop} {Q : Exit → Act → World → Prop} {F : Prop} (hgd : o.guard = none) (s x : Operand)
    (ho : o.op = .call { callee := .builtin .append, args := #[s, x], argTypes := #[T, T] })
    (B : Nat) (l1 : List OR) {v : Value} {n : Nat} {xs : List Value} {l2 : List OR} (h : Sep w B (l1 ++ ⟨e, size, v, n, xs⟩ :: l2)) (hs : a.eval s = v) {ad : Option Addr} {m c : Nat} {news : List Value} (hn : News w ad m size news) (hx : a.eval x = .slice ad m c) (hb : n + m ≤ 4000000) (hB : B ≤ w.heap.size)
    (k : ∀ va vc w', Sep w' B (l1 ++ ⟨e, size, .slice va (n + m) vc, n + m, xs ++ news⟩ :: l2) → Below B w w' → w.grownBy w' v.ownBlock → K (a.put o.dst (.slice va (n + m) vc)) w') :
    if Region.wanted o (yielded ops a.tmps) = true then Oper.wp Tryz.prog o a w K Q else F := by
  have hw : Region.wanted o (yielded ops a.tmps) = true := by simp [Region.wanted, hgd]
  rw [if_pos hw]
  exact wp_append_sep E s x ho B l1 h hs hn hx hb hB k
theorem own_new0 (w : World) (nb : Nat) (hnb : w.heap.size = nb) : (w.alloc (.cells #[] 3)).ownsRow nb 3 1 (.slice (some ⟨nb, 0, none⟩) 0 0) 0 [] := by
  subst hnb
  exact ⟨rfl, .inr ⟨w.heap.size, 0, #[], rfl, Nat.le_refl _, heap_alloc_new _ _, by omega, by unfold maxLen; omega, by simp, by simp⟩⟩
/-- lists that were made so far, behind other rows -/
def Made (w : World) (B : Nat) (pre : List OR) (ov : Value) (ys : List LV) : Prop := Sep w B (pre ++ ⟨35, 1, ov, ys.length, vals ys⟩ :: ys.map rowL)
theorem Made.below {w w' : World} {B : Nat} {pre : List OR} {ov : Value} {ys : List LV} (h : Made w B pre ov ys) (hb : Below w.heap.size w w') : Made w' B pre ov ys := Sep.below h hb
/-- a new list lies there -/
theorem Made.with {w w' : World} {B : Nat} {pre : List OR} {ov : Value} {ys : List LV} (h : Made w B pre ov ys) (hb : Below w.heap.size w w') (hB : B ≤ w.heap.size) (y : LV) (hy : w'.ownsRow w.heap.size 3 1 y.v y.r.length (ints y.r)) : Sep w' B (pre ++ ⟨35, 1, ov, ys.length, vals ys⟩ :: (ys ++ [y]).map rowL) := by
  have := Sep.append h hb hB (m := [rowL y]) ⟨by intro x hx; simp at hx; subst hx; exact hy, by simp⟩
  simpa using this
theorem Made.grown {w : World} {B n : Nat} {pre : List OR} {va : Option Addr} {vc : Nat} {ys : List LV} {y : LV} (h : Sep w B (pre ++ ⟨35, 1, .slice va (ys.length + 1) vc, ys.length + 1, vals ys ++ [y.v]⟩ :: (ys ++ [y]).map rowL)) : Made w B pre (.slice va (ys.length + 1) vc) (ys ++ [y]) := by
  unfold Made
  have e : vals (ys ++ [y]) = vals ys ++ [y.v] := by simp [vals]
  rw [e, List.length_append]
  exact h
set_option maxHeartbeats 4000000 in
/-- the program's copy of a graph -/
theorem copyGraph_any (a : Option Addr) (c : Nat) (xs : List (List Int)) (w : World) (hl : xs.length ≤ 1000) (hs : ∀ (i : Nat) l, xs[i]? = some l → l.length ≤ 1000) (h : LRow w a xs) :
    Calls Tryz.prog 98 #[.agg #[.slice a xs.length c]] w fun e w' => ∃ v ys, e = .returned (.agg #[v]) ∧ OwnL w' w.heap.size v ys ∧ lists ys = xs ∧ Below w.heap.size w w' := by
  have H := hid h
  have HS := hid hs
  clear h hs
  go_enter Tryz.func98, Tryz.ntmps98
  go_wp2
  have b0 := below2 w (.cells #[.slice a xs.length c] 25) (.cells #[.slice none 0 0] 25)
  have hsz0 : ((w.alloc (.cells #[.slice a xs.length c] 25)).alloc (.cells #[.slice none 0 0] 25)).heap.size = w.heap.size + 2 := by simp
  go_loopw [3, 9] (fun t3 t9 wr => ∃ (q : Nat) (oa : Option Addr) (oc : Nat) (ys : List LV), t9 = .int .i64 q ∧ q ≤ xs.length ∧ t3 = .slice oa ys.length oc ∧ Made wr (w.heap.size + 2) [] (.slice oa ys.length oc) ys ∧ lists ys = xs.take q ∧ Below w.heap.size w wr ∧ w.heap.size + 2 ≤ wr.heap.size ∧ wr.cell? ⟨w.heap.size + 1, 0, none⟩ = some (.slice none 0 0) ∧ wr.frozen? ⟨w.heap.size + 1, 0, none⟩ = false) (fun _ t9 _ => xs.length - (intOf t9).toNat)
  case atStart => exact ⟨0, none, 0, [], rfl, by omega, rfl, ⟨by intro x hx; simp [vals] at hx; subst hx; exact World.ownsRow_nil _ _ _ _, by simp⟩, rfl, b0, by omega, by simp [go_sem], by simp [go_sem]⟩
  case round =>
    obtain ⟨q, oa, oc, ys, rfl, hq, rfl, hm, hys, hB, hsz, c1, f1⟩ := hrel
    have hyl : ys.length = q := by have := congrArg List.length hys; rw [lists_length, List.length_take] at this; omega
    have HYL := hid hyl
    have hyb : ys.length ≤ 1000 := by omega
    clear hyl
    by_cases hqt : q < xs.length
    · have hx : xs ≠ [] := by intro e; subst e; simp at hqt
      obtain ⟨b, off, rfl, hbw, hat⟩ := H.out.at hx
      obtain ⟨t, ta, tc, c0, l1, HR, HX⟩ := hat wr hB q hqt
      have htl : t.length ≤ 1000 := HS.out q t HX.out
      have HN := hid (News.ints (HR.out.below hB))
      have HS0 : Hid (Sep wr wr.heap.size ([] ++ ⟨3, 1, .slice none 0 0, 0, []⟩ :: [])) := sep_one (World.ownsRow_nil _ _ _ _)
      have HM := hid hm
      have HYS := hid hys
      clear hat hx hm hys
      go_wp2_with (at_builtin; refine wpList_append_sep eltInt rfl _ _ rfl wr.heap.size [] HS0.out rfl HN.out rfl (by omega) (Nat.le_refl _) ?_)
      intro va vc w1 hs1 hb1 hg1
      have ho1 : w1.ownsRow wr.heap.size 3 1 (.slice va t.length vc) t.length (ints t) := one_sep (l2 := []) (by simpa using hs1)
      have B1 := bstep' hB hb1
      have HM1 := hid ((HM.out.with hb1 hsz ⟨t, .slice va t.length vc⟩ ho1).below (below1 w1 (.cells #[.slice va t.length vc] 35)))
      have HN1 := hid (News.one w1 (.slice va t.length vc) 35 _ rfl rfl)
      have hsz1 : w.heap.size + 2 ≤ w1.heap.size := Nat.le_trans hsz hb1.size
      have HZ1 : Hid (w.heap.size + 2 ≤ (w1.alloc (.cells #[.slice va t.length vc] 35)).heap.size) := by show w.heap.size + 2 ≤ _; simp; omega
      have c2 := cell_below (cell_below c1 hb1) (below1 w1 (.cells #[.slice va t.length vc] 35))
      have f2 : (w1.alloc (.cells #[.slice va t.length vc] 35)).frozen? ⟨w.heap.size + 1, 0, none⟩ = false := by
        rw [(below1 w1 _).frozen (p := ⟨w.heap.size + 1, 0, none⟩) (by show w.heap.size + 1 < _; omega), hb1.frozen (p := ⟨w.heap.size + 1, 0, none⟩) (by show w.heap.size + 1 < _; omega)]
        exact f1
      have HC2 := hid (And.intro c2 f2)
      have B2 := B1.alloc B1.size (.cells #[.slice va t.length vc] 35)
      have HB2 := hid B2
      clear hs1 hb1 hg1 ho1 B1 c2 f2 c1 f1 B2 HM
      go_wp2_with (at_builtin; refine wpList_append_sep eltLists rfl _ _ rfl (w.heap.size + 2) [] HM1.out rfl HN1.out rfl (by omega) HZ1.out ?_)
      intro va2 vc2 w2 hs2 hb2 hg2
      have HM2 : Hid (Made w2 (w.heap.size + 2) [] (.slice va2 (ys.length + 1) vc2) (ys ++ [⟨t, .slice va t.length vc⟩])) := Made.grown (n := 0) (by simpa using hs2)
      have HB3 : Hid (Below w.heap.size w w2 ∧ w.heap.size + 2 ≤ w2.heap.size ∧ w2.cell? ⟨w.heap.size + 1, 0, none⟩ = some (.slice none 0 0) ∧ w2.frozen? ⟨w.heap.size + 1, 0, none⟩ = false) := by
        refine ⟨HB2.out.trans (hb2.mono (by omega)), Nat.le_trans HZ1.out hb2.size, ?_, ?_⟩
        · rw [hb2.cell (p := ⟨w.heap.size + 1, 0, none⟩) (by show w.heap.size + 1 < _; omega)]; exact HC2.out.1
        · rw [hb2.frozen (p := ⟨w.heap.size + 1, 0, none⟩) (by show w.heap.size + 1 < _; omega)]; exact HC2.out.2
      clear hs2 hb2 hg2 HM1
      go_wp2
      go_roundw
      case rel =>
        refine ⟨q + 1, va2, vc2, ys ++ [⟨t, .slice va t.length vc⟩], by go_num, by omega, by rw [List.length_append]; rfl, ?_, ?_, HB3.out.1, HB3.out.2.1, HB3.out.2.2.1, HB3.out.2.2.2⟩
        · have := HM2.out; rw [List.length_append]; exact this
        · rw [List.take_add_one, HX.out, ← HYS.out]; simp [lists]
      case measure => simp [intOf]; omega
    · obtain rfl : q = xs.length := by omega
      rw [List.take_of_length_le (Nat.le_refl _)] at hys
      have HF := hid (And.intro hm (And.intro hys hB))
      clear hm hys
      go_wp2
      refine bodyPost_ret (v := .agg #[.slice oa ys.length oc]) (by simp [results, Tryz.results98, go_sem, *]) rfl ⟨_, ys, rfl, ?_, HF.out.2.1, ?_⟩
      · refine Sep.mono (Sep.aside (B := w.heap.size + 2) ?_ (by omega) _) (by omega)
        exact HF.out.1
      · exact HF.out.2.2.setCell (by show w.heap.size ≤ w.heap.size + 1; omega) _
/-- a list without a number -/
def dropL (l : List Int) (k : Int) : List Int := l.filter fun x => !decide (x = k)
theorem dropL_snoc (l : List Int) (x k : Int) : dropL (l ++ [x]) k = if x = k then dropL l k else dropL l k ++ [x] := by
  unfold dropL
  rw [List.filter_append]
  by_cases h : x = k <;> simp [h]
theorem dropL_len (l : List Int) (k : Int) : (dropL l k).length ≤ l.length := List.length_filter_le _ _
/-- one number goes from a row -/
theorem delete_any (B : Nat) (v : Value) (zs : List Int) (p : Nat) (w : World) (hp : p < zs.length) (hl : zs.length ≤ 1000) (h : w.ownsRow B 3 1 v zs.length (ints zs)) :
    Calls Tryz.prog 99 #[v, .int .i64 p, .int .i64 (p + 1 : Nat)] w fun e w' => ∃ va vc, e = .returned (.slice va (zs.length - 1) vc) ∧ w'.ownsRow B 3 1 (.slice va (zs.length - 1) vc) (zs.length - 1) (ints (zs.take p ++ zs.drop (p + 1))) ∧ w.grownBy w' v.ownBlock ∧ (Value.slice va (zs.length - 1) vc).ownBlock = v.ownBlock := by
  rcases h.2 with ⟨rfl, h0⟩ | ⟨g, cap, cur, rfl, hBg, hg, hn, hm, hsz, htk⟩
  · omega
  · refine (Tryz.slices_Delete_int_cells g 0 zs.length cap p (p + 1) zs w (Nat.le_refl _) hn (by unfold maxLen at hm; omega) (by omega) (by omega) (fun j hj => ?_) (fun j hj => by rw [Nat.zero_add]; exact h.frozenAt j)).mono ?_
    · rw [Nat.zero_add]
      exact rowT_at h rfl (by simp [ints, hj, List.getD])
    · rintro e w' ⟨rfl, q, rfl⟩
      rw [List.take_of_length_le (Nat.le_refl _), show p + 1 - p = 1 by omega]
      have e0 : ((zs.take p ++ zs.drop (p + 1) ++ List.replicate 1 0).map (Value.int .i64)) = ints (zs.take p ++ zs.drop (p + 1)) ++ [.int .i64 0] := by simp [ints]
      rw [e0]
      obtain ⟨L, hL⟩ : ∃ L, L = ints (zs.take p ++ zs.drop (p + 1)) := ⟨_, rfl⟩
      have hLl : L.length = zs.length - 1 := by rw [hL]; simp [ints]; omega
      rw [← hL]
      obtain ⟨h1, h2⟩ := own_setCells (L ++ [.int .i64 0]) (w.drewN q) 0 (ints zs) h (by simp; omega)
      have hz : (ints zs).length = zs.length := by simp [ints]
      have e1 : (ints zs).drop (0 + (L ++ [Value.int .i64 0]).length) = [] := List.drop_of_length_le (by rw [hz]; simp; omega)
      rw [e1, List.take_zero, List.nil_append, List.append_nil] at h1
      refine ⟨_, _, rfl, ?_, (show w.grownBy (w.drewN q) (some g) from grownBy_of_below (below_drewN (Below.refl _ _) q) _).trans h2, rfl⟩
      have h3 := own_cut h1 (m := zs.length - 1) (by omega)
      have e3 : (L ++ [Value.int .i64 0]).take (zs.length - 1) = L := by
        rw [List.take_append_of_le_length (by omega), List.take_of_length_le (by omega)]
      first
        | (rw [e3] at h3; exact h3)
        | (rw [Nat.mul_one, e3] at h3; exact h3)
/-- what a list without a number is, in a set -/
theorem dropL_pos {s : List Nat} (h : s.Pairwise (· < ·)) {k : Nat} (hk : k ∈ s) : dropL (nats s) k = (nats s).take (posL s k) ++ (nats s).drop (posL s k + 1) ∧ posL s k < s.length := by
  induction s with
  | nil => simp at hk
  | cons y r ih =>
    have hy := List.pairwise_cons.1 h
    by_cases hyk : y < k
    · have e : posL (y :: r) k = posL r k + 1 := by simp [posL, hyk]
      have hk' : k ∈ r := by rcases List.mem_cons.1 hk with e | e; · omega
                             · exact e
      obtain ⟨h1, h2⟩ := ih hy.2 hk'
      rw [e]
      refine ⟨?_, by simp; omega⟩
      have hne : ¬ ((y : Int) = (k : Int)) := by omega
      simp only [nats, List.map_cons, dropL, List.filter_cons, hne, decide_false, Bool.not_false, if_true, List.take_succ_cons, List.drop_succ_cons, List.cons_append]
      congr 1
    · have e0 : y = k := by rcases List.mem_cons.1 hk with e | e; · exact e.symm
                            · have := hy.1 k e; omega
      subst e0
      have e : posL (y :: r) y = 0 := by
        simp only [posL, List.countP_eq_zero]
        intro x hx
        rcases List.mem_cons.1 hx with e | e
        · simp; omega
        · have := hy.1 x e; simp; omega
      rw [e]
      refine ⟨?_, by simp⟩
      simp only [nats, List.map_cons, dropL, List.filter_cons, decide_true, Bool.not_true, Bool.false_eq_true, if_false, List.take_zero, List.nil_append, Nat.zero_add, List.drop_succ_cons, List.drop_zero]
      rw [List.filter_eq_self]
      intro x hx
      obtain ⟨z, hz, rfl⟩ := List.mem_map.1 hx
      have := hy.1 z hz
      simp; omega
end Go.Proofs.YtiadmmnnbnamjaaGreat
