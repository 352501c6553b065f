/- Loops that are drawn, with one of them spoilt: rows of loops that are written. -/
import Derived.Test.YtiadmmnnbnamjaaGreatQ8
import Derived.Test.YtiadmmnnbnamjaaGreatIloops8
namespace Go.Proofs.YtiadmmnnbnamjaaGreat
open Go.RowKit
set_option linter.unusedVariables false
set_option linter.unusedSimpArgs false
set_option maxRecDepth 100000

/-- any number is picked from, whatever it is -/
theorem pick_some (n0 B K : Nat) (n : Int) (w : World) (h : Cur w n0 B K) (hK : K ≤ 900000) (hm : n ≤ 60000) :
    Calls Tryz.prog 41 #[.pointer (some ⟨B, 0, none⟩), .int .i64 n] w fun e w' => ∃ r, e = .returned (.int .i64 r) ∧ (0 ≤ r ∧ r ≤ 60000) ∧ Cur w' n0 B (K + 2) ∧ w.grownBy w' (some B) := by
  by_cases hn : 1 ≤ n
  · refine (pick_any n0 B K n w h hK hn hm).mono ?_
    rintro e w' ⟨r, rfl, hr, hc, hg⟩
    exact ⟨r, rfl, by omega, hc, hg⟩
  · go_enter Tryz.func41, Tryz.ntmps41
    go_wp2
    go_ret
    exact ⟨0, rfl, by omega, h.more (by omega), World.grownBy.refl _ _⟩
theorem setq_same {α : Type} {l : List α} {i : Nat} {v : α} (h : l[i]? = some v) : l.set i v = l := by
  apply List.ext_getElem?
  intro j
  by_cases e : j = i
  · subst e; rw [List.getElem?_set_self (List.getElem?_eq_some_iff.1 h).1, h]
  · rw [List.getElem?_set_ne (fun h' => e h'.symm)]
theorem splitQQ {qs : List QV} {k : Nat} {y : QV} (h : qs[k]? = some y) : qs = qs.take k ++ y :: qs.drop (k + 1) := by
  obtain ⟨h1, h2⟩ := List.getElem?_eq_some_iff.1 h
  subst h2
  rw [List.getElem_cons_drop]
  exact (List.take_append_drop k qs).symm
theorem cells3_set {qs : List QV} {k : Nat} {y : QV} (h : qs[k]? = some y) (p n : Int) (t : List Int) (v : Value) : cellsQ (qs.set k ((p, n, t), v)) = (((cellsQ qs).set (k * 3) (.int .i64 p)).set (k * 3 + 1) v).set (k * 3 + 2) (.int .i64 n) := by
  have hk := (List.getElem?_eq_some_iff.1 h).1
  have hl : (qs.take k).length = k := by simp; omega
  have e1 : qs.set k ((p, n, t), v) = qs.take k ++ ((p, n, t), v) :: qs.drop (k + 1) := by
    rw [List.set_eq_take_append_cons_drop, if_pos hk]
  have e2 : cellsQ qs = cellsQ (qs.take k) ++ ([.int .i64 y.1.1, y.2, .int .i64 y.1.2.1] ++ cellsQ (qs.drop (k + 1))) := by
    conv => lhs; rw [splitQQ h]
    rw [cellsQ_append]
    rfl
  have hc : (cellsQ (qs.take k)).length = k * 3 := by rw [cellsQ_length, hl]
  rw [e1, cellsQ_append, e2]
  rw [List.set_append_right _ _ (by omega), List.set_append_right _ _ (by omega), List.set_append_right _ _ (by omega), hc]
  have a0 : k * 3 - k * 3 = 0 := by omega
  have a1 : k * 3 + 1 - k * 3 = 1 := by omega
  have a2 : k * 3 + 2 - k * 3 = 2 := by omega
  rw [a0, a1, a2]
  rfl
theorem own_setQ {W : World} {L0 lb m lc k : Nat} {qs : List QV} {y : QV} (h : OwnQ W L0 (.slice (some ⟨lb, 0, none⟩) m lc) qs) (hm : qs.length = m) (hy : qs[k]? = some y) (p : Int) :
    OwnQ (W.setCell ⟨lb, k * 3, none⟩ (.int .i64 p)) L0 (.slice (some ⟨lb, 0, none⟩) m lc) (qs.set k ((p, y.1.2.1, y.1.2.2), y.2)) ∧ OwnQ (W.setCell ⟨lb, k * 3 + 2, none⟩ (.int .i64 p)) L0 (.slice (some ⟨lb, 0, none⟩) m lc) (qs.set k ((y.1.1, p, y.1.2.2), y.2)) := by
  subst hm
  have hc := cellsQ_at qs k y hy
  have hr : ∀ q : QV, rowQ q = rowQ y → (qs.set k q).map rowQ = qs.map rowQ := fun q hq => by
    rw [List.map_set, hq]
    exact setq_same (by rw [List.getElem?_map, hy]; rfl)
  constructor
  · have h1 := Sep.store [] (l2 := qs.map rowQ) h (k * 3) (.int .i64 p)
    unfold OwnQ rowsQ
    rw [hr ((p, y.1.2.1, y.1.2.2), y.2) rfl, List.length_set, cells3_set hy]
    have e1 : ((cellsQ qs).set (k * 3) (.int .i64 p)).set (k * 3 + 1) y.2 = (cellsQ qs).set (k * 3) (.int .i64 p) := setq_same (by rw [List.getElem?_set_ne (by omega)]; exact hc.2.1)
    rw [e1, setq_same (show ((cellsQ qs).set (k * 3) (.int .i64 p))[k * 3 + 2]? = some (.int .i64 y.1.2.1) by rw [List.getElem?_set_ne (by omega)]; exact hc.2.2)]
    exact h1
  · have h1 := Sep.store [] (l2 := qs.map rowQ) h (k * 3 + 2) (.int .i64 p)
    unfold OwnQ rowsQ
    rw [hr ((y.1.1, p, y.1.2.2), y.2) rfl, List.length_set, cells3_set hy, setq_same hc.1, setq_same hc.2.1]
    exact h1
/-- what lies there while loops are drawn -/
structure GQ (w W : World) (gb L0 K : Nat) (va : Option Addr) (N vc : Nat) (ys : List LV) (la : Option Addr) (M lc : Nat) (qs : List QV) : Prop where
  graph : OwnL W (w.heap.size + 2) (.slice va N vc) ys
  loops : OwnQ W L0 (.slice la M lc) qs
  many : qs.length = M
  top : ∀ x ∈ rowsL (.slice va N vc) ys, ∀ k, x.v.ownBlock = some k → k < L0
  cur : Cur W (w.heap.size + 1) (w.heap.size + 1) K
  bel : Below w.heap.size w W
  box : W.cell? ⟨w.heap.size, 0, none⟩ = some (.slice none 0 0)
  frz : W.frozen? ⟨w.heap.size, 0, none⟩ = false
  gbox : W.cell? ⟨gb, 0, none⟩ = some (.slice va N vc)
  lt : w.heap.size + 2 ≤ gb ∧ gb < L0 ∧ L0 ≤ W.heap.size
theorem GQ.on {w W W' : World} {gb L0 K K' N vc M lc : Nat} {va la : Option Addr} {ys : List LV} {qs : List QV} (h : GQ w W gb L0 K va N vc ys la M lc qs) (hg : W.grownBy W' (some (w.heap.size + 1))) (hc : Cur W' (w.heap.size + 1) (w.heap.size + 1) K') : GQ w W' gb L0 K' va N vc ys la M lc qs := by
  have hlt := h.lt
  exact ⟨Sep.aside' h.graph hg (by omega), Sep.aside' h.loops hg (by omega), h.many, h.top, hc, h.bel.trans ⟨hg.os, hg.tape, hg.output, hg.size, fun k hk => hg.block k (by omega) (fun e => by simp at e; omega)⟩, cell_grown h.box hg (by omega), by rw [frozen_grown (by omega) hg (by omega)]; exact h.frz, cell_grown h.gbox hg (by omega), ⟨hlt.1, hlt.2.1, Nat.le_trans hlt.2.2 hg.size⟩⟩
/-- the loops' row is written -/
theorem GQ.put {w W : World} {gb L0 K N vc M lc : Nat} {va : Option Addr} {lb j : Nat} {u : Value} {ys : List LV} {qs qs' : List QV} (h : GQ w W gb L0 K va N vc ys (some ⟨lb, 0, none⟩) M lc qs) (hlb : L0 ≤ lb) (ho : OwnQ (W.setCell ⟨lb, j, none⟩ u) L0 (.slice (some ⟨lb, 0, none⟩) M lc) qs') (hm : qs'.length = M) : GQ w (W.setCell ⟨lb, j, none⟩ u) gb L0 K va N vc ys (some ⟨lb, 0, none⟩) M lc qs' := by
  have hlt := h.lt
  have hb : Below L0 W (W.setCell ⟨lb, j, none⟩ u) := (Below.refl L0 W).setCell (p := ⟨lb, j, none⟩) hlb _
  refine ⟨⟨fun x hx => ?_, h.graph.2⟩, ho, hm, h.top, h.cur.belowC hb (by omega), h.bel.trans (hb.mono (by omega)), set_far h.box (by omega), by rw [frozen_setCell]; exact h.frz, set_far h.gbox (by omega), ⟨hlt.1, hlt.2.1, by simp; omega⟩⟩
  refine (h.graph.1 x hx).kept (grownBy_set W lb j u) ?_
  by_cases e : x.v.ownBlock = none
  · exact .inl e
  · exact .inr (fun e' => by have := h.top x hx lb e'; omega)
theorem GQ.fin {w W : World} {gb L0 K N vc M lc : Nat} {va la : Option Addr} {ys : List LV} {qs : List QV} (h : GQ w W gb L0 K va N vc ys la M lc qs) (u : Value) : LRow (W.setCell ⟨w.heap.size, 0, none⟩ u) va (lists ys) ∧ QRow (W.setCell ⟨w.heap.size, 0, none⟩ u) la (lops qs) ∧ Below w.heap.size w (W.setCell ⟨w.heap.size, 0, none⟩ u) :=
  ⟨own_lrow (Sep.aside h.graph (by omega) _) rfl, own_qrow (Sep.aside h.loops (by have := h.lt; omega) _) rfl, h.bel.setCell (Nat.le_refl _) _⟩
theorem GQ.drew {w W : World} {gb L0 K N vc M lc : Nat} {va la : Option Addr} {ys : List LV} {qs : List QV} (h : GQ w W gb L0 K va N vc ys la M lc qs) : GQ w W.drew gb L0 K va N vc ys la M lc qs := h.on (grownBy_drewN W 1 _) (h.cur.grown (grownBy_drewN W 1 none) (fun r e => by cases e))
theorem GQ.splitL {w W : World} {gb L0 K N vc M lc k lb : Nat} {va : Option Addr} {ys : List LV} {qs : List QV} {y : QV} (h : GQ w W gb L0 K va N vc ys (some ⟨lb, 0, none⟩) M lc qs) (hy : qs[k]? = some y) : Sep W L0 ((⟨37, 3, .slice (some ⟨lb, 0, none⟩) M lc, M, cellsQ qs⟩ :: (qs.take k).map rowQ) ++ ⟨3, 1, y.2, y.1.2.2.length, ints y.1.2.2⟩ :: (qs.drop (k + 1)).map rowQ) := by
  have h1 := h.loops
  have hm := h.many
  subst hm
  unfold OwnQ rowsQ at h1
  have e : qs.map rowQ = (qs.take k).map rowQ ++ rowQ y :: (qs.drop (k + 1)).map rowQ := by
    conv => lhs; rw [splitQQ hy]
    simp
  rw [e] at h1
  exact h1
/-- behind the append and the store of a loop's Body -/
theorem fin7 {w w7 w9 : World} {gb L0 K N vc M lc k lb vc9 : Nat} {va va9 : Option Addr} {r : Int} {ys : List LV} {qs : List QV} {y : QV} (h : GQ w w7 gb L0 K va N vc ys (some ⟨lb, 0, none⟩) M lc qs) (hy : qs[k]? = some y) (hlb : L0 ≤ lb)
    (hs9 : Sep w9 L0 ((⟨37, 3, .slice (some ⟨lb, 0, none⟩) M lc, M, cellsQ qs⟩ :: (qs.take k).map rowQ) ++ ⟨3, 1, .slice va9 (y.1.2.2.length + 1) vc9, y.1.2.2.length + 1, ints y.1.2.2 ++ [.int .i64 r]⟩ :: (qs.drop (k + 1)).map rowQ)) (hb9 : Below L0 (w7.alloc (.cells #[.int .i64 r] 3)) w9) :
    (w9.cell? ⟨gb, 0, none⟩ = some (.slice va N vc) ∧ w9.frozen? ⟨lb, k * 3 + 1, none⟩ = false ∧ w9.cell? ⟨lb, k * 3 + 1, none⟩ = some y.2) ∧ (w9.setCell ⟨lb, k * 3 + 1, none⟩ (.slice va9 (y.1.2.2.length + 1) vc9)).cell? ⟨gb, 0, none⟩ = some (.slice va N vc) ∧
    Hid (GQ w (w9.setCell ⟨lb, k * 3 + 1, none⟩ (.slice va9 (y.1.2.2.length + 1) vc9)) gb L0 K va N vc ys (some ⟨lb, 0, none⟩) M lc (qs.set k ((y.1.1, y.1.2.1, y.1.2.2 ++ [r]), .slice va9 (y.1.2.2.length + 1) vc9))) := by
  have hlt := h.lt
  have B9 : Below L0 w7 w9 := ((below1 w7 _).mono hlt.2.2).trans hb9
  have hg9 : w9.cell? ⟨gb, 0, none⟩ = some (.slice va N vc) := by rw [B9.cell (p := ⟨gb, 0, none⟩) hlt.2.1]; exact h.gbox
  have hout := hs9.1 ⟨37, 3, .slice (some ⟨lb, 0, none⟩) M lc, M, cellsQ qs⟩ (by simp)
  have hc := cellsQ_at qs k y hy
  refine ⟨⟨hg9, rowT_frz hout rfl _, rowT_at hout rfl hc.2.1⟩, set_far hg9 (by omega), ?_⟩
  have hb : Below L0 w7 (w9.setCell ⟨lb, k * 3 + 1, none⟩ (.slice va9 (y.1.2.2.length + 1) vc9)) := B9.setCell (p := ⟨lb, k * 3 + 1, none⟩) hlb _
  refine ⟨⟨fun x hx => ?_, h.graph.2⟩, ?_, by rw [List.length_set]; exact h.many, h.top, h.cur.belowC hb (by omega), h.bel.trans (hb.mono (by omega)), set_far (by rw [B9.cell (p := ⟨w.heap.size, 0, none⟩) (by show w.heap.size < _; omega)]; exact h.box) (by omega), by rw [frozen_setCell, B9.frozen (p := ⟨w.heap.size, 0, none⟩) (by show w.heap.size < _; omega)]; exact h.frz, set_far hg9 (by omega), ⟨hlt.1, hlt.2.1, by have := B9.size; simp; omega⟩⟩
  · exact owns_touch (h.graph.1 x hx) (B := L0) (C := w7.heap.size) ⟨hb.os, hb.tape, hb.output, hb.size, fun i hi hn => hb.block i (by omega)⟩ (fun k hk => .inl (h.top x hx k hk))
  · have hm := h.many
    subst hm
    have h1 := Sep.store [] (l2 := (qs.take k).map rowQ ++ ⟨3, 1, .slice va9 (y.1.2.2.length + 1) vc9, y.1.2.2.length + 1, ints y.1.2.2 ++ [.int .i64 r]⟩ :: (qs.drop (k + 1)).map rowQ) hs9 (k * 3 + 1) (.slice va9 (y.1.2.2.length + 1) vc9)
    unfold OwnQ rowsQ
    have hk := (List.getElem?_eq_some_iff.1 hy).1
    rw [List.length_set, cells3_set hy, setq_same hc.1]
    have e2 : ((cellsQ qs).set (k * 3 + 1) (.slice va9 (y.1.2.2.length + 1) vc9)).set (k * 3 + 2) (.int .i64 y.1.2.1) = (cellsQ qs).set (k * 3 + 1) (.slice va9 (y.1.2.2.length + 1) vc9) := setq_same (by rw [List.getElem?_set_ne (by omega)]; exact hc.2.2)
    have es : qs.set k ((y.1.1, y.1.2.1, y.1.2.2 ++ [r]), .slice va9 (y.1.2.2.length + 1) vc9) = qs.take k ++ ((y.1.1, y.1.2.1, y.1.2.2 ++ [r]), .slice va9 (y.1.2.2.length + 1) vc9) :: qs.drop (k + 1) := by rw [List.set_eq_take_append_cons_drop, if_pos hk]
    rw [e2, es]
    have e3 : rowQ ((y.1.1, y.1.2.1, y.1.2.2 ++ [r]), .slice va9 (y.1.2.2.length + 1) vc9) = ⟨3, 1, .slice va9 (y.1.2.2.length + 1) vc9, y.1.2.2.length + 1, ints y.1.2.2 ++ [.int .i64 r]⟩ := by simp [rowQ, ints]
    rw [List.map_append, List.map_cons, e3]
    exact h1
set_option maxHeartbeats 8000000 in
theorem drawGL_any (a : Option Addr) (c : Nat) (zs : List Int) (w : World) (h : Code w a zs) :
    Calls Tryz.prog 14 #[.slice a zs.length c] w fun e w' => ∃ va vc N la lc M xs ls, e = .returned (.tuple #[.agg #[.slice va N vc], .slice la M lc]) ∧ (xs : List (List Int)).length = N ∧ (ls : List Lop).length = M ∧ N ≤ 13 ∧ M ≤ 1000 ∧ LRow w' va xs ∧ QRow w' la ls ∧ Below w.heap.size w w' := by
  have b0 := below1 w (.cells #[.slice none 0 0] 25)
  have HG := hid (looped_any _ _ 0 _ ((h.later b0).cur c) (by omega))
  have x0 : ((w.alloc (.cells #[.slice none 0 0] 25)).alloc (.cells #[.slice a zs.length c, .int .i64 0, .int .u64 0] 54)).cell? ⟨w.heap.size, 0, none⟩ = some (.slice none 0 0) := by simp [go_sem]
  have z0 : (w.alloc (.cells #[.slice none 0 0] 25)).heap.size = w.heap.size + 1 := by simp
  have hl := h.1
  have f0 : ((w.alloc (.cells #[.slice none 0 0] 25)).alloc (.cells #[.slice a zs.length c, .int .i64 0, .int .u64 0] 54)).frozen? ⟨w.heap.size, 0, none⟩ = false := by simp [go_sem]
  rw [z0] at HG
  have HB0 := hid b0
  clear h b0
  go_enter Tryz.func14, Tryz.ntmps14
  go_wp2_with fail
  refine HG.out.mono ?_
  rintro e w1 ⟨v, ys, rfl, ho, hy, hc, hg⟩
  have x1 := cell_grown x0 hg (by omega)
  have f1 : w1.frozen? ⟨w.heap.size, 0, none⟩ = false := by rw [frozen_grown (by simp; omega) hg (by omega)]; exact f0
  have HB1 : Hid (Below w.heap.size w w1) := by
    have h1 : Below (w.heap.size + 1) (w.alloc (.cells #[.slice none 0 0] 25)) w1 := by
      have := below_of_alloc (w := w.alloc (.cells #[.slice none 0 0] 25)) (w' := w1) (o := .cells #[.slice a zs.length c, .int .i64 0, .int .u64 0] 54) (by rw [z0]; exact hg)
      rwa [z0] at this
    exact HB0.out.trans (h1.mono (by omega))
  have hsz : w.heap.size + 2 ≤ w1.heap.size := by have := hg.size; simp at this; omega
  have HO := hid (Sep.mono ho (show w.heap.size + 2 ≤ _ by simp))
  obtain ⟨va, vc, rfl, hr⟩ := OwnL.row ho
  have hx13 : (lists ys).length ≤ 13 := by rw [lists_length]; exact hy
  have b2 := below1 w1 (.cells #[.slice va (lists ys).length vc] 25)
  have c2 : (w1.alloc (.cells #[.slice va (lists ys).length vc] 25)).cell? ⟨w1.heap.size, 0, none⟩ = some (.slice va (lists ys).length vc) := by simp [go_sem]
  have H2 := hid (And.intro (cell_below x1 b2) (And.intro (show (w1.alloc (.cells #[.slice va (lists ys).length vc] 25)).frozen? ⟨w.heap.size, 0, none⟩ = false by rw [b2.frozen (p := ⟨w.heap.size, 0, none⟩) (by show w.heap.size < _; omega)]; exact f1) (And.intro (cur_below hc b2) (And.intro (OwnL.below HO.out b2) (bstep' HB1.out b2)))))
  have HR2 := hid (hr.below b2)
  obtain ⟨yy, G, hyl, hsq, hS, hI⟩ := loops_ans (lists ys) (by omega)
  have HS := hid hS
  have HTOP : Hid (∀ x ∈ rowsL (.slice va (lists ys).length vc) ys, ∀ k, x.v.ownBlock = some k → k < w1.heap.size + 1) := fun x hx k hk => by have := (ho.1 x hx).lt k hk; omega
  clear ho hc hg x0 f0 HO HB1 x1 f1 b2 hr hS hI
  go_wp2_with fail
  refine (HS.out va vc _ HR2.out).mono ?_
  rintro e w3 ⟨la, lc, qs, rfl, OQ, hq, hb3⟩
  have hql : qs.length = yy.length := by rw [← hq, lops_length]
  have hqs : qs.length ≤ 1000 := by omega
  rw [← hql] at OQ ⊢
  have G3 : GQ w w3 w1.heap.size (w1.heap.size + 1) 5000 va (lists ys).length vc ys la qs.length lc qs := ⟨OwnL.below H2.out.2.2.2.1 hb3, Sep.mono OQ (by simp), rfl, HTOP.out, cur_below H2.out.2.2.1 hb3, bstep' H2.out.2.2.2.2 hb3, cell_below H2.out.1 hb3, by rw [hb3.frozen (p := ⟨w.heap.size, 0, none⟩) (by show w.heap.size < _; simp; omega)]; exact H2.out.2.1, cell_below c2 hb3, ⟨hsz, by omega, by have := hb3.size; simp at this; omega⟩⟩
  have HSQ : Hid (sumQ (lops qs) ≤ 1000) := by show sumQ (lops qs) ≤ 1000; rw [hq]; exact hsq
  clear OQ hq hql hb3 c2 H2 HR2 HS HTOP hyl hsq
  generalize hL0 : w1.heap.size + 1 = L0 at G3
  by_cases hq0 : 0 < qs.length
  · go_wp2_with fail
    refine (one_any _ _ _ 3 _ G3.cur (by omega) (by omega) (by omega)).mono ?_
    rintro e w4 ⟨r4, rfl, hc4, hg4⟩
    have G4 := G3.on hg4 hc4
    clear hc4 hg4 G3
    cases r4
    · have HG4 := hid G4
      have x4 := G4.box
      have f4 := G4.frz
      have c4 := G4.gbox
      have hne : ¬ w1.heap.size = w.heap.size := by omega
      clear G4
      go_wp2
      refine bodyPost_ret (v := .tuple #[.agg #[.slice va (lists ys).length vc], .slice la qs.length lc]) (by simp [results, Tryz.results14, go_sem, *]) rfl ⟨_, _, _, _, _, _, _, _, rfl, rfl, (lops_length _).trans HG4.out.many, hx13, hqs, ?_⟩
      exact HG4.out.fin _
    · go_wp2_with fail
      refine (pick_any _ _ _ (qs.length : Int) _ G4.cur (by omega) (by omega) (by omega)).mono ?_
      rintro e w5 ⟨r5, rfl, ⟨p50, p51⟩, hc5, hg5⟩
      obtain ⟨k, rfl⟩ := Int.eq_ofNat_of_zero_le p50
      have G5 := G4.on hg5 hc5
      clear hc5 hg5 G4
      go_wp2_with fail
      refine (pick_any _ _ _ 3 _ G5.cur (by omega) (by omega) (by omega)).mono ?_
      rintro e w6 ⟨r6, rfl, ⟨p60, p61⟩, hc6, hg6⟩
      have G6 := G5.on hg6 hc6
      clear hc6 hg6 G5
      have hkl : k < qs.length := by omega
      obtain ⟨y, hyk⟩ : ∃ y, qs[k]? = some y := ⟨_, List.getElem?_eq_getElem hkl⟩
      obtain ⟨lb, rfl, hlb, hlb2⟩ := own_addr (OwnQ.outer G6.loops) hq0
      have HY := hid hyk
      have hne : ¬ w1.heap.size = w.heap.size := by omega
      have hcq := cellsQ_at qs k y hyk
      clear hyk
      have f60 : w6.frozen? ⟨lb, k * 3, none⟩ = false := rowT_frz (OwnQ.outer G6.loops) rfl _
      have f62 : w6.frozen? ⟨lb, k * 3 + 2, none⟩ = false := rowT_frz (OwnQ.outer G6.loops) rfl _
      have cb0 : w6.cell? ⟨lb, k * 3, none⟩ = some (.int .i64 y.1.1) := rowT_at (OwnQ.outer G6.loops) rfl hcq.1
      have cb : w6.cell? ⟨lb, k * 3 + 1, none⟩ = some y.2 := rowT_at (OwnQ.outer G6.loops) rfl hcq.2.1
      have cb2 : w6.cell? ⟨lb, k * 3 + 2, none⟩ = some (.int .i64 y.1.2.1) := rowT_at (OwnQ.outer G6.loops) rfl hcq.2.2
      have c6 := G6.gbox
      have HG6 := hid G6
      have hltG := G6.lt
      clear hcq G6
      by_cases h60 : r6 = 0
      · subst h60
        go_wp2_with fail
        refine (pick_some _ _ _ ((lists ys).length : Int) _ HG6.out.cur (by omega) (by omega)).mono ?_
        rintro e w7 ⟨r7, rfl, hr7, hc7, hg7⟩
        have g7 := HG6.out.on hg7 hc7
        have d7 := cell_grown cb0 hg7 (by omega)
        have f7 : w7.frozen? ⟨lb, k * 3, none⟩ = false := by rw [frozen_grown (by omega) hg7 (by omega)]; exact f60
        have q3 := hid (g7.put hlb (own_setQ g7.loops g7.many HY.out r7).1 (by rw [List.length_set]))
        have xq := q3.out.box
        have fq := q3.out.frz
        have cq := q3.out.gbox
        clear g7 hc7 hg7 cb0 cb cb2 f60 f62 c6
        go_wp2
        refine bodyPost_ret (v := .tuple #[.agg #[.slice va (lists ys).length vc], .slice (some ⟨lb, 0, none⟩) qs.length lc]) (by simp [results, Tryz.results14, go_sem, *]) rfl ⟨_, _, _, _, _, _, _, _, rfl, rfl, (lops_length _).trans q3.out.many, hx13, hqs, ?_⟩
        exact q3.out.fin _
      by_cases h61 : r6 = 1
      · subst h61
        go_wp2_with fail
        refine (pick_some _ _ _ ((qs.length : Int) + 1) _ HG6.out.cur (by omega) (by omega)).mono ?_
        rintro e w7 ⟨r7, rfl, hr7, hc7, hg7⟩
        have g7 := HG6.out.on hg7 hc7
        have d7 := cell_grown cb2 hg7 (by omega)
        have f7 : w7.frozen? ⟨lb, k * 3 + 2, none⟩ = false := by rw [frozen_grown (by omega) hg7 (by omega)]; exact f62
        have q3 := hid (g7.put hlb (own_setQ g7.loops g7.many HY.out (r7 - 1)).2 (by rw [List.length_set]))
        have xq := q3.out.box
        have fq := q3.out.frz
        have cq := q3.out.gbox
        clear g7 hc7 hg7 cb0 cb cb2 f60 f62 c6
        go_wp2
        refine bodyPost_ret (v := .tuple #[.agg #[.slice va (lists ys).length vc], .slice (some ⟨lb, 0, none⟩) qs.length lc]) (by simp [results, Tryz.results14, go_sem, *]) rfl ⟨_, _, _, _, _, _, _, _, rfl, rfl, (lops_length _).trans q3.out.many, hx13, hqs, ?_⟩
        exact q3.out.fin _
      have hyl : y.1.2.2.length ≤ 1000 := by
        have h1 := sumQ_at (xs := lops qs) (k := k) (x := y.1) (by simp [lops, HY.out])
        have h2 := sumQ_take (lops qs) (k + 1)
        have := HSQ.out
        omega
      have HG6D := hid HG6.out.drew
      have HP := hid (pick_some _ _ _ ((lists ys).length : Int) w6.drew HG6D.out.cur (by omega) (by omega))
      go_wp2
      refine wp_region_held_drew (S := fun X => X.cell? ⟨w1.heap.size, 0, none⟩ = some (.slice va (lists ys).length vc)) (by kernel_rfl) HG6.out.gbox (fun hHeld => ?_)
      refine wpAnyH_take (i := 0) (v := ?_) rfl (by kernel_rfl) (by kernel_rfl) (by kernel_rfl) (fun _ _ _ h => h) (Or.inl ⟨by rfl, ?_⟩) (by assumption) ?_
      rotate_left
      focus (intro w hSw; (try dsimp only at hSw); go_simp; first | done | with_reducible rfl)
      try go_simp
      refine wpAnyH_take (i := 1) (v := ?_) rfl (by kernel_rfl) (by kernel_rfl) (by kernel_rfl) (fun _ _ _ h => h) (Or.inl ⟨by rfl, ?_⟩) (by assumption) ?_
      rotate_left
      focus (intro w hSw; (try dsimp only at hSw); go_simp; first | done | with_reducible rfl)
      try go_simp
      refine wpAnyH_take (i := 2) (v := ?_) rfl (by kernel_rfl) (by kernel_rfl) (by kernel_rfl) (fun _ _ _ h => h) (Or.inl ⟨by rfl, ?_⟩) (by assumption) ?_
      rotate_left
      focus (intro w hSw; (try dsimp only at hSw); go_simp; first | done | with_reducible rfl)
      try go_simp
      refine wpAnyH_take (i := 3) (v := ?_) rfl (by kernel_rfl) (by kernel_rfl) (by kernel_rfl) (fun _ _ _ h => h) (Or.inl ⟨by rfl, ?_⟩) (by assumption) ?_
      rotate_left
      focus (intro w hSw; (try dsimp only at hSw); go_simp; first | done | with_reducible rfl)
      try go_simp
      refine wpAnyH_take (i := 4) (v := ?_) rfl (by kernel_rfl) (by kernel_rfl) (by kernel_rfl) (fun _ _ _ h => h) (Or.inl ⟨by rfl, ?_⟩) (by assumption) ?_
      rotate_left
      focus (intro w hSw; (try dsimp only at hSw); go_simp; first | done | with_reducible rfl)
      try go_simp
      refine wpAnyH_take (i := 5) (v := ?_) rfl (by kernel_rfl) (by kernel_rfl) (by kernel_rfl) (fun _ _ _ h => h) (Or.inl ⟨by rfl, ?_⟩) (by assumption) ?_
      rotate_left
      focus (intro w hSw; (try dsimp only at hSw); go_simp; first | done | with_reducible rfl)
      try go_simp
      refine wpAnyH_take (i := 7) (v := ?_) rfl (by kernel_rfl) (by kernel_rfl) (by kernel_rfl) (fun _ _ _ h => h) (Or.inl ⟨by rfl, ?_⟩) (by assumption) ?_
      rotate_left
      focus (intro w hSw; (try dsimp only at hSw); go_simp; first | done | with_reducible rfl)
      try go_simp
      refine wpAnyH_take (i := 8) (v := ?_) rfl (by kernel_rfl) (by kernel_rfl) (by kernel_rfl) (fun _ _ _ h => h) (Or.inl ⟨by rfl, ?_⟩) (by assumption) ?_
      rotate_left
      focus (intro w hSw; (try dsimp only at hSw); go_simp; first | done | with_reducible rfl)
      try go_simp
      refine wpAnyH_take (i := 9) (v := ?_) rfl (by kernel_rfl) (by kernel_rfl) (by kernel_rfl) (fun _ _ _ h => h) (Or.inl ⟨by rfl, ?_⟩) (by assumption) ?_
      rotate_left
      focus (intro w hSw; (try dsimp only at hSw); go_simp; first | done | with_reducible rfl)
      try go_simp
      refine wpAnyH_take (i := 10) (v := ?_) rfl (by kernel_rfl) (by kernel_rfl) (by kernel_rfl) (fun _ _ _ h => h) (Or.inl ⟨by rfl, ?_⟩) (by assumption) ?_
      rotate_left
      focus (intro w hSw; (try dsimp only at hSw); go_simp; first | done | with_reducible rfl)
      try go_simp
      refine wpAnyH_ready (rs := [6, 11]) (by kernel_rfl) (by simp) ?_
      refine AllReadyH.cons rfl (fun K hK => ?_) ?_
      · go_simp
        refine hK.out _ _ HG6.out.gbox (fun hHeld => ?_)
        clear hK K
        try go_simp
        refine wpAnyH_ready (rs := [11]) (by kernel_rfl) (by simp) ?_
        refine AllReadyH.cons rfl (fun K hK => ?_) AllReadyH.nil
        go_simp
        go_at_call 41
        refine HP.out.mono ?_
        rintro e w7 ⟨r7, rfl, hr7, hc7, hg7⟩
        have g7 := HG6D.out.on hg7 hc7
        have HG7 := hid g7
        have c7 := g7.gbox
        have z7 := g7.lt
        have d7 := cell_grown (w := w6.drew) cb hg7 (by omega)
        clear g7
        refine hK.out _ _ c7 (fun hHeld => ?_)
        clear hK K
        try go_simp
        refine wpAnyH_ready (rs := [12]) (by kernel_rfl) (by simp) ?_
        refine AllReadyH.cons rfl (fun K hK => ?_) AllReadyH.nil
        go_simp
        refine hK.out _ _ (cell_below c7 (below1 _ _)) (fun hHeld => ?_)
        clear hK K
        try go_simp
        refine wpAnyH_ready (rs := [13]) (by kernel_rfl) (by simp) ?_
        refine AllReadyH.cons rfl (fun K hK => ?_) AllReadyH.nil
        refine step_append_sep eltInt (by rfl) _ _ (by rfl) L0 (⟨37, 3, .slice (some ⟨lb, 0, none⟩) qs.length lc, qs.length, cellsQ qs⟩ :: (qs.take k).map rowQ) ((HG7.out.splitL HY.out).below (below1 w7 (.cells #[.int .i64 r7] 3))) (by rfl) (News.one w7 (.int .i64 r7) 3 _ rfl rfl) (by rfl) (by omega) (by simp; omega) ?_
        intro va9 vc9 w9 hs9 hb9 hg9
        obtain ⟨q1, q2, q3⟩ := fin7 HG7.out HY.out hlb hs9 hb9
        have c9 := q1.1
        have f9 := q1.2.1
        have d9 := q1.2.2
        clear hs9 hb9 hg9
        refine hK.out _ _ c9 (fun hHeld => ?_)
        clear hK K
        try go_simp
        refine wpAnyH_take (i := 14) (v := ?_) rfl (by kernel_rfl) (by kernel_rfl) (by kernel_rfl) (fun _ _ _ h => h) (Or.inl ⟨by rfl, ?_⟩) (by assumption) ?_
        rotate_left
        focus (intro w hSw; (try dsimp only at hSw); go_simp; first | done | with_reducible rfl)
        try go_simp
        refine wpAnyH_take (i := 15) (v := ?_) rfl (by kernel_rfl) (by kernel_rfl) (by kernel_rfl) (fun _ _ _ h => h) (Or.inl ⟨by rfl, ?_⟩) (by assumption) ?_
        rotate_left
        focus (intro w hSw; (try dsimp only at hSw); go_simp; first | done | with_reducible rfl)
        try go_simp
        refine wpAnyH_ready (rs := [16]) (by kernel_rfl) (by simp) ?_
        refine AllReadyH.cons rfl (fun K hK => ?_) AllReadyH.nil
        go_simp
        refine hK.out _ _ q2 (fun hHeld => ?_)
        clear hK K
        try go_simp
        refine wpAnyH_done (by kernel_rfl) ?_ _
        clear hHeld HP
        have xq := q3.out.box
        have fq := q3.out.frz
        go_wp2
        refine bodyPost_ret (v := .tuple #[.agg #[.slice va (lists ys).length vc], .slice (some ⟨lb, 0, none⟩) qs.length lc]) (by simp [results, Tryz.results14, go_sem, *]) rfl ⟨_, _, _, _, _, _, _, _, rfl, rfl, (lops_length _).trans q3.out.many, hx13, hqs, ?_⟩
        exact q3.out.fin _
      refine AllReadyH.cons rfl (fun K hK => ?_) AllReadyH.nil
      go_simp
      go_at_call 41
      refine HP.out.mono ?_
      rintro e w7 ⟨r7, rfl, hr7, hc7, hg7⟩
      have g7 := HG6D.out.on hg7 hc7
      have HG7 := hid g7
      have c7 := g7.gbox
      have z7 := g7.lt
      have d7 := cell_grown (w := w6.drew) cb hg7 (by omega)
      clear g7
      refine hK.out _ _ c7 (fun hHeld => ?_)
      clear hK K
      try go_simp
      refine wpAnyH_ready (rs := [6, 12]) (by kernel_rfl) (by simp) ?_
      refine AllReadyH.cons rfl (fun K hK => ?_) ?_
      · go_simp
        refine hK.out _ _ c7 (fun hHeld => ?_)
        clear hK K
        try go_simp
        refine wpAnyH_ready (rs := [12]) (by kernel_rfl) (by simp) ?_
        refine AllReadyH.cons rfl (fun K hK => ?_) AllReadyH.nil
        go_simp
        refine hK.out _ _ (cell_below c7 (below1 _ _)) (fun hHeld => ?_)
        clear hK K
        try go_simp
        refine wpAnyH_ready (rs := [13]) (by kernel_rfl) (by simp) ?_
        refine AllReadyH.cons rfl (fun K hK => ?_) AllReadyH.nil
        refine step_append_sep eltInt (by rfl) _ _ (by rfl) L0 (⟨37, 3, .slice (some ⟨lb, 0, none⟩) qs.length lc, qs.length, cellsQ qs⟩ :: (qs.take k).map rowQ) ((HG7.out.splitL HY.out).below (below1 w7 (.cells #[.int .i64 r7] 3))) (by rfl) (News.one w7 (.int .i64 r7) 3 _ rfl rfl) (by rfl) (by omega) (by simp; omega) ?_
        intro va9 vc9 w9 hs9 hb9 hg9
        obtain ⟨q1, q2, q3⟩ := fin7 HG7.out HY.out hlb hs9 hb9
        have c9 := q1.1
        have f9 := q1.2.1
        have d9 := q1.2.2
        clear hs9 hb9 hg9
        refine hK.out _ _ c9 (fun hHeld => ?_)
        clear hK K
        try go_simp
        refine wpAnyH_take (i := 14) (v := ?_) rfl (by kernel_rfl) (by kernel_rfl) (by kernel_rfl) (fun _ _ _ h => h) (Or.inl ⟨by rfl, ?_⟩) (by assumption) ?_
        rotate_left
        focus (intro w hSw; (try dsimp only at hSw); go_simp; first | done | with_reducible rfl)
        try go_simp
        refine wpAnyH_take (i := 15) (v := ?_) rfl (by kernel_rfl) (by kernel_rfl) (by kernel_rfl) (fun _ _ _ h => h) (Or.inl ⟨by rfl, ?_⟩) (by assumption) ?_
        rotate_left
        focus (intro w hSw; (try dsimp only at hSw); go_simp; first | done | with_reducible rfl)
        try go_simp
        refine wpAnyH_ready (rs := [16]) (by kernel_rfl) (by simp) ?_
        refine AllReadyH.cons rfl (fun K hK => ?_) AllReadyH.nil
        go_simp
        refine hK.out _ _ q2 (fun hHeld => ?_)
        clear hK K
        try go_simp
        refine wpAnyH_done (by kernel_rfl) ?_ _
        clear hHeld HP
        have xq := q3.out.box
        have fq := q3.out.frz
        go_wp2
        refine bodyPost_ret (v := .tuple #[.agg #[.slice va (lists ys).length vc], .slice (some ⟨lb, 0, none⟩) qs.length lc]) (by simp [results, Tryz.results14, go_sem, *]) rfl ⟨_, _, _, _, _, _, _, _, rfl, rfl, (lops_length _).trans q3.out.many, hx13, hqs, ?_⟩
        exact q3.out.fin _
      refine AllReadyH.cons rfl (fun K hK => ?_) AllReadyH.nil
      go_simp
      refine hK.out _ _ (cell_below c7 (below1 _ _)) (fun hHeld => ?_)
      clear hK K
      try go_simp
      have d8 : (w7.alloc (.cells #[.int .i64 r7] 3)).cell? ⟨lb, k * 3 + 1, none⟩ = some y.2 := cell_below d7 (below1 _ _)
      refine wpAnyH_ready (rs := [6]) (by kernel_rfl) (by simp) ?_
      refine AllReadyH.cons rfl (fun K hK => ?_) AllReadyH.nil
      go_simp
      refine hK.out _ _ (cell_below c7 (below1 _ _)) (fun hHeld => ?_)
      clear hK K
      try go_simp
      refine wpAnyH_ready (rs := [13]) (by kernel_rfl) (by simp) ?_
      refine AllReadyH.cons rfl (fun K hK => ?_) AllReadyH.nil
      refine step_append_sep eltInt (by rfl) _ _ (by rfl) L0 (⟨37, 3, .slice (some ⟨lb, 0, none⟩) qs.length lc, qs.length, cellsQ qs⟩ :: (qs.take k).map rowQ) ((HG7.out.splitL HY.out).below (below1 w7 (.cells #[.int .i64 r7] 3))) (by rfl) (News.one w7 (.int .i64 r7) 3 _ rfl rfl) (by rfl) (by omega) (by simp; omega) ?_
      intro va9 vc9 w9 hs9 hb9 hg9
      obtain ⟨q1, q2, q3⟩ := fin7 HG7.out HY.out hlb hs9 hb9
      have c9 := q1.1
      have f9 := q1.2.1
      have d9 := q1.2.2
      clear hs9 hb9 hg9
      refine hK.out _ _ c9 (fun hHeld => ?_)
      clear hK K
      try go_simp
      refine wpAnyH_take (i := 14) (v := ?_) rfl (by kernel_rfl) (by kernel_rfl) (by kernel_rfl) (fun _ _ _ h => h) (Or.inl ⟨by rfl, ?_⟩) (by assumption) ?_
      rotate_left
      focus (intro w hSw; (try dsimp only at hSw); go_simp; first | done | with_reducible rfl)
      try go_simp
      refine wpAnyH_take (i := 15) (v := ?_) rfl (by kernel_rfl) (by kernel_rfl) (by kernel_rfl) (fun _ _ _ h => h) (Or.inl ⟨by rfl, ?_⟩) (by assumption) ?_
      rotate_left
      focus (intro w hSw; (try dsimp only at hSw); go_simp; first | done | with_reducible rfl)
      try go_simp
      refine wpAnyH_ready (rs := [16]) (by kernel_rfl) (by simp) ?_
      refine AllReadyH.cons rfl (fun K hK => ?_) AllReadyH.nil
      go_simp
      refine hK.out _ _ q2 (fun hHeld => ?_)
      clear hK K
      try go_simp
      refine wpAnyH_done (by kernel_rfl) ?_ _
      clear hHeld HP
      have xq := q3.out.box
      have fq := q3.out.frz
      go_wp2
      refine bodyPost_ret (v := .tuple #[.agg #[.slice va (lists ys).length vc], .slice (some ⟨lb, 0, none⟩) qs.length lc]) (by simp [results, Tryz.results14, go_sem, *]) rfl ⟨_, _, _, _, _, _, _, _, rfl, rfl, (lops_length _).trans q3.out.many, hx13, hqs, ?_⟩
      exact q3.out.fin _
  · have HG3 := hid G3
    have x3 := G3.box
    have f3 := G3.frz
    have c3 := G3.gbox
    have hne : ¬ w1.heap.size = w.heap.size := by omega
    clear G3
    go_wp2
    refine bodyPost_ret (v := .tuple #[.agg #[.slice va (lists ys).length vc], .slice la qs.length lc]) (by simp [results, Tryz.results14, go_sem, *]) rfl ⟨_, _, _, _, _, _, _, _, rfl, rfl, (lops_length _).trans HG3.out.many, hx13, hqs, ?_⟩
    exact HG3.out.fin _
end Go.Proofs.YtiadmmnnbnamjaaGreat
