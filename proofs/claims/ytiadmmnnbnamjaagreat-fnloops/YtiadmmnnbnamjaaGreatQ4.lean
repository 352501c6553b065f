/- The program's back edges. -/
import Derived.Test.YtiadmmnnbnamjaaGreatQ3
import Derived.OwnWalkIn
import Derived.Test.YtiadmmnnbnamjaaGreatOwn8
import Derived.Test.YtiadmmnnbnamjaaGreatRound8
import Derived.Test.YtiadmmnnbnamjaaGreatCopy7
import Derived.Deep.RegionHeld
import Derived.Test.YtiadmmnnbnamjaaGreatDoms8
namespace Go.Proofs.YtiadmmnnbnamjaaGreat
section
open Go Go.RowKit Go.Shelf
attribute [local go_sem] Oper.semAt_some
set_option linter.unusedVariables false
set_option linter.unusedSimpArgs false
set_option maxRecDepth 100000

theorem wpListIn_append_sep {F : Fence} {nF : Nat} {T e : TypeId} {size bytes : Nat} (E : Elt T e size bytes) {w : World} {ops : Array Oper} {rest : List Oper} {o : Oper} {a : Act} {Q : Exit → Act → World → Prop} (hgd : o.guard = none) (s x : Operand)
    (ho : o.op = .call { callee := .builtin .append, args := #[s, x], argTypes := #[T, T] })
    (B : Nat) (l1 : List OR) {v : Value} {n : Nat} {xs : List Value} {l2 : List OR} (h : Sep w B (l1 ++ ⟨e, size, v, n, xs⟩ :: l2)) (hs : a.eval s = v) {ad : Option Addr} {m c : Nat} {news : List Value} (hn : News w ad m size news) (hx : a.eval x = .slice ad m c) (hb : n + m ≤ 4000000) (hB : B ≤ w.heap.size)
    (k : ∀ va vc w', Sep w' B (l1 ++ ⟨e, size, .slice va (n + m) vc, n + m, xs ++ news⟩ :: l2) → Below B w w' → w.grownBy w' v.ownBlock → (∀ g, (Value.slice va (n + m) vc).ownBlock = some g → v.ownBlock = some g ∨ w.heap.size ≤ g) → wpListIn F nF Tryz.prog ops Q rest (a.put o.dst (.slice va (n + m) vc)) w') : wpListIn F nF Tryz.prog ops Q (o :: rest) a w := by
  refine wpListIn_plain hgd fun K hK' => ?_
  have ho' := h.1 ⟨e, size, v, n, xs⟩ (by simp)
  obtain ⟨va, vc, w', hr, h2, h3, h4⟩ := run_append_more E w o.type B v n xs ho' ad m c news hn hb hB
  unfold Oper.wpIn
  refine ⟨?_, ?_⟩
  · simp [Oper.about, ho, resolve, Target.leads, Sem.run_pure]
  · rw [Oper.semAt_plain F _ _ (by rw [ho]; intro c hc'; cases hc')]
    simp [execOp, ho, resolve, invoke, builtin, hs, hx, hr, Result.andThen]
    exact hK' _ _ (k va vc w' (h.turn l1 (Below.refl _ _) h3 ⟨e, size, .slice va (n + m) vc, n + m, xs ++ news⟩ h2 h4) ((Below.refl B w).grown h3 hB (fun j hj => (ho'.lt j hj).1)) h3 h4)
/-- what the iterator over back edges is made of -/
structure BackIs (g : List (List Nat)) (a : Option Addr) (c : Nat) (w w' : World) (Bd db dc : Nat) (ys : List LV) (D : List (List Nat)) : Prop where
  doms : IsDoms g D
  are : lists ys = natsL D
  own : OwnS w' (w.heap.size + 1) (.slice (some ⟨db, 0, none⟩) g.length dc) ys
  box : w'.cell? ⟨w.heap.size, 0, none⟩ = some (.slice a g.length c)
  dbox : w'.cell? ⟨Bd, 0, none⟩ = some (.slice (some ⟨db, 0, none⟩) g.length dc)
  far : w.heap.size < Bd
  below : Below w.heap.size w w'
set_option maxHeartbeats 2000000 in
theorem backEdgesIn_any {g : List (List Nat)} (G : Gr g) (a : Option Addr) (c : Nat) (w : World) (h : GRow w a g) :
    Calls Tryz.prog 83 #[.agg #[.slice a g.length c]] w fun e w' => ∃ Bd db dc ys D, e = .returned (.func (.func 100) #[] #[.pointer (some ⟨w.heap.size, 0, none⟩), .pointer (some ⟨Bd, 0, none⟩)]) ∧ BackIs g a c w w' Bd db dc ys D := by
  have b0 := below1 w (.cells #[.slice a g.length c] 25)
  have HO := hid (doms_any G a c (w.alloc (.cells #[.slice a g.length c] 25)) (LRow.below h b0))
  have d0 : (w.alloc (.cells #[.slice a g.length c] 25)).cell? ⟨w.heap.size, 0, none⟩ = some (.slice a g.length c) := by simp [go_sem]
  have z0 : (w.alloc (.cells #[.slice a g.length c] 25)).heap.size = w.heap.size + 1 := by simp
  have hgp := G.pos
  clear h
  refine (callsIn_wide (n := 8)).1 ?_
  refine callsIn_of_wp Tryz.func83 rfl trivial ?_ rfl
  simp only [Tryz.ntmps83, List.size_toArray, List.length_cons, List.length_nil, Nat.reduceAdd, Nat.reduceSub, Array.replicate_succ, Array.replicate_zero, List.push_toArray, List.append_toArray, List.nil_append, List.cons_append]
  gi_wp2_with (refine ⟨trivial, ?_⟩; gi_at_call 34; refine (callsIn_wide.2 HO.out).mono ?_; rintro e w1 ⟨va, vc, ys, D, rfl, ho, hy, hD, hb1⟩)
  obtain ⟨db, rfl⟩ : ∃ b, va = some ⟨b, 0, none⟩ := by
    have hout := ho.1 ⟨60, 1, .slice va g.length vc, ys.length, vals ys⟩ (by simp)
    simp only [OR.own] at hout
    rcases hout.2 with ⟨h0, h1⟩ | ⟨g', cap, cur, he, _⟩
    · injection h0 with _ e2 _; omega
    · injection he with e1 _ _; exact ⟨g', e1⟩
  go_ret
  have b1 := below1 w1 (.cells #[.slice (some ⟨db, 0, none⟩) g.length vc] 68)
  refine ⟨w1.heap.size, db, vc, ys, D, rfl, hD, hy, ?_, cell_below (cell_below d0 hb1) b1, by simp [go_sem], by have := hb1.size; omega, bstep' (bstep' b0 hb1) b1⟩
  rw [← z0]
  exact Sep.below ho b1
end

section
open Go Go.RowKit Go.Shelf
attribute [local go_sem] Oper.semAt_some
set_option linter.unusedVariables false
set_option linter.unusedSimpArgs false
set_option maxRecDepth 100000

set_option maxHeartbeats 8000000 in
theorem without_any {g : List (List Nat)} (G : Gr g) (a : Option Addr) (c : Nat) (w : World) (h : GRow w a g) :
    Calls Tryz.prog 82 #[.agg #[.slice a g.length c]] w fun e w' => ∃ va vc ys D, e = .returned (.agg #[.slice va g.length vc]) ∧ OwnL w' w.heap.size (.slice va g.length vc) ys ∧ IsDoms g D ∧ lists ys = natsL (fwd g D) ∧ Below w.heap.size w w' := by
  have hgm := G.most
  have hgp := G.pos
  have H := hid h
  have b0 := below2 w (.cells #[.slice a g.length c] 25) (.cells #[.slice none 0 0] 25)
  have z0 : ((w.alloc (.cells #[.slice a g.length c] 25)).alloc (.cells #[.slice none 0 0] 25)).heap.size = w.heap.size + 2 := by simp
  have d0 : ((w.alloc (.cells #[.slice a g.length c] 25)).alloc (.cells #[.slice none 0 0] 25)).cell? ⟨w.heap.size, 0, none⟩ = some (.slice a g.length c) := ((Boxed.new w 25 (.slice a g.length c)).alloc _).cell
  have x0 : Boxed ((w.alloc (.cells #[.slice a g.length c] 25)).alloc (.cells #[.slice none 0 0] 25)) (w.heap.size + 1) 25 (.slice none 0 0) := by
    have := Boxed.new (w.alloc (.cells #[.slice a g.length c] 25)) 25 (.slice none 0 0)
    rw [World.size_alloc] at this
    exact this
  have HCP : Hid (Calls Tryz.prog 98 #[.agg #[.slice a g.length c]] ((w.alloc (.cells #[.slice a g.length c] 25)).alloc (.cells #[.slice none 0 0] 25)) fun e w' => ∃ fb fc ys, e = .returned (.agg #[.slice (some ⟨fb, 0, none⟩) g.length fc]) ∧ OwnL w' (w.heap.size + 2) (.slice (some ⟨fb, 0, none⟩) g.length fc) ys ∧ lists ys = natsL g ∧ Below ((w.alloc (.cells #[.slice a g.length c] 25)).alloc (.cells #[.slice none 0 0] 25)).heap.size ((w.alloc (.cells #[.slice a g.length c] 25)).alloc (.cells #[.slice none 0 0] 25)) w') := by
    have h1 := copyGraph_any a c (g.map nats) ((w.alloc (.cells #[.slice a g.length c] 25)).alloc (.cells #[.slice none 0 0] 25)) (by simp; omega) (fun i l hl => by
      rw [List.getElem?_map] at hl
      obtain ⟨l0, hl0, rfl⟩ := Option.map_eq_some_iff.1 hl
      rw [nats_length]
      have h2 := nodup_le (n := g.length) (rising_nodup (G.rising _ l0 hl0)) (fun j hj => G.below _ l0 hl0 j hj)
      omega) (LRow.below h b0)
    rw [List.length_map] at h1
    refine h1.mono ?_
    rintro e w' ⟨v, ys, rfl, ho, hy, hb⟩
    rw [z0] at ho
    obtain ⟨fa, fc, e1, _⟩ := ho.row
    rw [hy, List.length_map] at e1
    subst e1
    have hout := ho.outer
    obtain ⟨fb, rfl⟩ : ∃ b, fa = some ⟨b, 0, none⟩ := by
      rcases hout.2 with ⟨h0, h1⟩ | ⟨g', cap, cur, he, _⟩
      · injection h0 with _ e2 _; omega
      · injection he with e1 _ _; exact ⟨g', e1⟩
    exact ⟨fb, fc, ys, rfl, ho, hy, hb⟩
  have HB := hid (fun W (hb : Below w.heap.size w W) => backEdgesIn_any G a c W (LRow.below H.out hb))
  clear h
  refine (callsIn_wide (n := 14)).1 ?_
  refine callsIn_of_wp_marks Tryz.func82 rfl trivial ?_ rfl
  simp only [Tryz.ntmps82, List.size_toArray, List.length_cons, List.length_nil, Nat.reduceAdd, Nat.reduceSub, Array.replicate_succ, Array.replicate_zero, List.push_toArray, List.append_toArray, List.nil_append, List.cons_append]
  gi_wp2_with (first | (refine ⟨trivial, ?_⟩; gi_at_call 98; refine (callsIn_wide.2 HCP.out).mono ?_; rintro e w1 ⟨fb, fc, cs, rfl, hoc, hyc, hbc⟩; have B1 := bstep' b0 hbc; have d1 := cell_below d0 hbc; have b2 := below1 w1 (.cells #[.slice (some ⟨fb, 0, none⟩) g.length fc] 25); have d2 := cell_below d1 b2; have B2 := bstep' B1 b2) | (refine ⟨trivial, ?_⟩; gi_at_call 83; refine (callsIn_wide.2 (HB.out _ B2)).mono ?_; rintro e X ⟨Bd, db, dc, ys, D, rfl, hbk⟩))
  have z1 : w.heap.size + 2 ≤ w1.heap.size := by have := hbc.size; omega
  have z2 : (w1.alloc (.cells #[.slice (some ⟨fb, 0, none⟩) g.length fc] 25)).heap.size = w1.heap.size + 1 := by simp
  have BX : Below w.heap.size w X := bstep' B2 hbk.below
  have zX := hbk.below.size
  have x2 : Boxed X (w.heap.size + 1) 25 (.slice none 0 0) := boxed_below (boxed_below (boxed_below x0 hbc) b2) hbk.below
  have hgX : w1.heap.size + 1 < X.heap.size := by have h1 : (w1.alloc (.cells #[.slice (some ⟨fb, 0, none⟩) g.length fc] 25)).heap.size < X.heap.size := World.block_lt_of_cell? X _ hbk.box; omega
  have hdX : Bd < X.heap.size := World.block_lt_of_cell? X _ hbk.dbox
  have hfar := hbk.far
  rw [z2] at hfar zX
  have xbox := hbk.box
  rw [z2] at xbox
  have hfb : w.heap.size + 2 ≤ fb ∧ fb < w1.heap.size := hoc.outer.lt fb rfl
  have hcb : ∀ y ∈ cs, ∀ b, y.v.ownBlock = some b → b < w1.heap.size := fun y hy b hb => ((hoc.inner hy).lt b hb).2
  have hR : OwnR (w1.alloc (.cells #[.slice (some ⟨fb, 0, none⟩) g.length fc] 25)) (w.heap.size + 2) (.slice (some ⟨fb, 0, none⟩) g.length fc) cs [cellOR 25 1 w1.heap.size [.slice (some ⟨fb, 0, none⟩) g.length fc]] := by
    refine Sep.append hoc b2 z1 ⟨fun y hy => ?_, by simp⟩
    simp at hy
    subst hy
    exact cell_own (cs := #[.slice (some ⟨fb, 0, none⟩) g.length fc]) (World.alloc_heap_new _ _) rfl (Nat.le_refl _)
  have HRX := hid (hR.below hbk.below)
  have HK := hid hbk
  have HCY := hid (And.intro hyc hcb)
  clear hbk hbc hoc B1 d1 b2 d2 B2 HCP HB b0 d0 x0 hR hyc hcb
  refine range_own2 rfl (by omega) (gf := 100) (lb := #[.pointer (some ⟨w1.heap.size + 1, 0, none⟩), .pointer (some ⟨Bd, 0, none⟩)]) rfl trivial (enters_of Tryz.func100 (by kernel_rfl) rfl)
    (back_own2 G a c D HK.out.doms _ (by omega) (w1.heap.size + 1) Bd db dc _ ys (fun k => k < w.heap.size ∨ (w1.heap.size + 1 ≤ k ∧ k < X.heap.size)) w X H.out BX (fun k hk => .inl hk) (.inr ⟨Nat.le_refl _, hgX⟩) (.inr ⟨by omega, hdX⟩) (fun k hk => by have := BX.size; omega) xbox HK.out.dbox HK.out.own HK.out.are (fun y hy k hk => by have := Sep.size HK.out.own hy hk; rw [z2] at this; exact .inr ⟨by omega, this.2⟩)) (fun k hk => by have := BX.size; omega) (Below.refl _ _) (fun _ => rfl)
    (fun T pre V => (∃ zs P, OwnR V (w.heap.size + 2) (.slice (some ⟨fb, 0, none⟩) g.length fc) zs [cellOR 25 1 w1.heap.size [.slice (some ⟨fb, 0, none⟩) g.length fc]] ∧ lists zs = natsL P ∧ Cut g (pre.map (·.1)) P ∧ ∀ y ∈ zs, ∀ b, y.v.ownBlock = some b → b < w1.heap.size) ∧ Boxed V (w.heap.size + 1) 25 (.slice none 0 0) ∧ Below w.heap.size w V ∧ T ≤ V.heap.size)
    (fun _ _ _ => False)
    (fun T s A B row hs hg hr => by
      obtain ⟨⟨zs, P, h1, h2, h3, h7⟩, h4, h5, h6⟩ := hs
      exact ⟨⟨zs, P, Sep.calm h1 hg (fun r e => (hr r e).2), h2, h3, h7⟩, h4.kept hg (fun e => by have := (hr _ e.symm).1; omega), h5.grown hg h5.size (fun k e => by have := (hr _ e).1; have := BX.size; omega), Nat.le_trans h6 hg.size⟩)
    (fun _ _ _ _ _ hs _ _ => hs)
    (fun W' hg => ⟨⟨cs, g, Sep.calm HRX.out hg (fun r e => by cases e), HCY.out.1, Cut.begin g, HCY.out.2⟩, x2.kept hg (by simp), BX.grown hg BX.size (fun k e => by cases e), Nat.le_refl _⟩)
    (fun x => { tmps := #[Value.agg #[Value.slice a g.length c], Value.pointer (some { block := w.heap.size, off := 0 }), Value.pointer (some { block := w.heap.size + 1, off := 0 }), Value.pointer (some { block := w1.heap.size, off := 0 }), .int .i64 (x.1.1 : Int), .int .i64 (x.1.2 : Int), undef, Value.agg #[Value.slice a g.length c], Value.agg #[Value.slice (some ⟨fb, 0, none⟩) g.length fc], Value.agg #[Value.slice a g.length c], Value.func (Fn.func 100) #[] #[Value.pointer (some { block := w1.heap.size + 1, off := 0 }), Value.pointer (some { block := Bd, off := 0 })], .int .i64 (x.1.1 : Int), .int .i64 (x.1.2 : Int), undef, undef, undef, undef, undef, undef, undef, undef, undef, undef, undef, undef, undef, undef, undef, undef, undef, undef, undef, undef, undef], defers := [] }) ?assign ?body ?done ?stop
  case assign =>
    intro l x W K hK
    gi_wp2
    exact hK
  case body =>
    rintro l T pre x V hT ⟨⟨zs, P, h1, h2, h3, h7⟩, h4, h5, h6⟩ hlen hsp
    have hu : x.1.1 < g.length := RchW.lt G x.2.1
    obtain ⟨lu, hlu, hvu⟩ := x.2.2
    obtain ⟨r, hr⟩ : ∃ r, P[x.1.1]? = some r := ⟨_, List.getElem?_eq_getElem (by rw [h3.1]; exact hu)⟩
    have hnew : x.1 ∉ pre.map (·.1) := back_new G (by rw [List.map_append] at hsp; exact hsp)
    have hvr : x.1.2 ∈ r := h3.has hlu hr hvu hnew
    obtain ⟨rv, hrv⟩ := own_of_lists h2 hr
    have hzl : zs.length = g.length := (lists_len h2).trans h3.1
    have hro := h1.plain.inner (List.mem_of_getElem? hrv)
    simp only [nats_length] at hro
    obtain ⟨ra, rc, e1⟩ := slice_of_owned hro
    subst e1
    have hrl : r.length ≤ 12 := by
      have h8 : r.length ≤ lu.length := by rw [h3.2 _ lu r hlu hr]; exact List.length_filter_le _ _
      have h9 := nodup_le (n := g.length) (rising_nodup (G.rising _ lu hlu)) (fun j hj => G.below _ lu hlu j hj)
      omega
    have c3 : V.cell? ⟨w1.heap.size, 0, none⟩ = some (.slice (some ⟨fb, 0, none⟩) g.length fc) := rowT_at (OwnR.rest h1 (List.mem_singleton.2 rfl)) rfl rfl
    have cr : V.cell? ⟨fb, x.1.1, none⟩ = some (.slice ra r.length rc) := rowT_at h1.plain.outer rfl (show (vals zs)[x.1.1]? = _ by simp [vals, hrv])
    have cf : V.frozen? ⟨fb, x.1.1, none⟩ = false := rowT_frz h1.plain.outer rfl _
    obtain ⟨p, hp⟩ : ∃ p, r.idxOf x.1.2 = p := ⟨_, rfl⟩
    have hpl : p < r.length := by rw [← hp]; exact (idx_spec hvr).1
    have HI := hid (index_any _ ra rc r x.1.2 V (by omega) hro hvr)
    rw [hp] at HI
    have hwr : IntKind.i64.wrap ((p : Int) + 1) = (p : Int) + 1 := by rw [IntKind.wrap_i64]; omega
    have HD : Hid (Calls Tryz.prog 99 #[.slice ra r.length rc, .int .i64 (p : Int), .int .i64 (IntKind.i64.wrap ((p : Int) + 1))] V.drew fun e w' => ∃ va vc, e = .returned (.slice va (r.length - 1) vc) ∧ w'.ownsRow (w.heap.size + 2) 3 1 (.slice va (r.length - 1) vc) (r.length - 1) (ints (nats (r.take p ++ r.drop (p + 1)))) ∧ V.drew.grownBy w' (Value.slice ra r.length rc).ownBlock ∧ (Value.slice va (r.length - 1) vc).ownBlock = (Value.slice ra r.length rc).ownBlock) := by
      have := delete_any (w.heap.size + 2) (.slice ra r.length rc) (nats r) p V.drew (by rw [nats_length]; exact hpl) (by rw [nats_length]; omega) (by rw [nats_length]; exact owns_drew hro)
      rw [nats_length, show (nats r).take p ++ (nats r).drop (p + 1) = nats (r.take p ++ r.drop (p + 1)) by simp [nats, List.map_take, List.map_drop]] at this
      rw [hwr]
      exact this
    have HQ := hid (And.intro h1 (And.intro h2 (And.intro h3 (And.intro h4 (And.intro h5 (And.intro h7 (And.intro hlu (And.intro hr (And.intro hvr (And.intro hrv (And.intro hzl (And.intro hp hro))))))))))))
    have hVz := h5.size
    clear h1 h2 h3 h4 h5 h7 hlu hr hvr hrv hzl hvu hnew hsp hp hro
    have hrn : (r.take p ++ r.drop (p + 1)).length = r.length - 1 := by rw [List.length_append, List.length_take, List.length_drop]; omega
    have hpos : ∀ k, (Value.slice ra r.length rc).ownBlock = some k → w.heap.size + 2 ≤ k ∧ k < w1.heap.size ∧ ∃ c' fz, V.heap[k]? = some (.cells c' 3 fz) := fun k hk => ⟨(HQ.out.2.2.2.2.2.2.2.2.2.2.2.2.lt k hk).1, HQ.out.2.2.2.2.2.1 _ (List.mem_of_getElem? HQ.out.2.2.2.2.2.2.2.2.2.1) k hk, own_kind HQ.out.2.2.2.2.2.2.2.2.2.2.2.2 hk⟩
    have HT : Hid (∀ w2 va vc, w2.ownsRow (w.heap.size + 2) 3 1 (.slice va (r.length - 1) vc) (r.length - 1) (ints (nats (r.take p ++ r.drop (p + 1)))) → V.drew.grownBy w2 (Value.slice ra r.length rc).ownBlock → (Value.slice va (r.length - 1) vc).ownBlock = (Value.slice ra r.length rc).ownBlock → Sep w2 (w.heap.size + 2) ((⟨35, 1, .slice (some ⟨fb, 0, none⟩) zs.length fc, zs.length, vals zs⟩ :: (zs.take x.1.1).map rowL) ++ ⟨3, 1, .slice va (r.length - 1) vc, (nats (r.take p ++ r.drop (p + 1))).length, ints (nats (r.take p ++ r.drop (p + 1)))⟩ :: ((zs.drop (x.1.1 + 1)).map rowL ++ [cellOR 25 1 w1.heap.size [.slice (some ⟨fb, 0, none⟩) g.length fc]]))) := fun w2 va vc ho2 hg2 he2 => by
      have hsp0 := (OwnR.split HQ.out.1 HQ.out.2.2.2.2.2.2.2.2.2.1).turn _ (bdr (Below.refl _ _)) hg2 ⟨3, 1, .slice va (r.length - 1) vc, (nats (r.take p ++ r.drop (p + 1))).length, ints (nats (r.take p ++ r.drop (p + 1)))⟩ (by show World.ownsRow _ _ _ _ _ _ _; rw [nats_length, hrn]; exact ho2) (fun k hk => .inl (by rw [← hk]; exact he2.symm))
      have e0 : (Value.slice (some ⟨fb, 0, none⟩) g.length fc) = (Value.slice (some ⟨fb, 0, none⟩) zs.length fc) := by rw [HQ.out.2.2.2.2.2.2.2.2.2.2.1]
      rw [show (⟨35, 1, .slice (some ⟨fb, 0, none⟩) zs.length fc, zs.length, vals zs⟩ : OR) = ⟨35, 1, .slice (some ⟨fb, 0, none⟩) g.length fc, zs.length, vals zs⟩ from by rw [e0]]
      exact hsp0
    have HC3 : Hid (∀ w2 va vc, Sep w2 (w.heap.size + 2) ((⟨35, 1, .slice (some ⟨fb, 0, none⟩) zs.length fc, zs.length, vals zs⟩ :: (zs.take x.1.1).map rowL) ++ ⟨3, 1, .slice va (r.length - 1) vc, (nats (r.take p ++ r.drop (p + 1))).length, ints (nats (r.take p ++ r.drop (p + 1)))⟩ :: ((zs.drop (x.1.1 + 1)).map rowL ++ [cellOR 25 1 w1.heap.size [.slice (some ⟨fb, 0, none⟩) g.length fc]])) → w2.cell? ⟨w1.heap.size, 0, none⟩ = some (.slice (some ⟨fb, 0, none⟩) g.length fc)) := fun w2 va vc hs => Sep.cell hs (x := cellOR 25 1 w1.heap.size [.slice (some ⟨fb, 0, none⟩) g.length fc]) (by simp) rfl rfl
    have HCR : Hid (∀ w2 va vc, Sep w2 (w.heap.size + 2) ((⟨35, 1, .slice (some ⟨fb, 0, none⟩) zs.length fc, zs.length, vals zs⟩ :: (zs.take x.1.1).map rowL) ++ ⟨3, 1, .slice va (r.length - 1) vc, (nats (r.take p ++ r.drop (p + 1))).length, ints (nats (r.take p ++ r.drop (p + 1)))⟩ :: ((zs.drop (x.1.1 + 1)).map rowL ++ [cellOR 25 1 w1.heap.size [.slice (some ⟨fb, 0, none⟩) g.length fc]])) → w2.cell? ⟨fb, x.1.1, none⟩ = some (.slice ra r.length rc)) := fun w2 va vc hs => Sep.cell hs (x := ⟨35, 1, .slice (some ⟨fb, 0, none⟩) zs.length fc, zs.length, vals zs⟩) (by simp) rfl (by simp [vals, HQ.out.2.2.2.2.2.2.2.2.2.1])
    have HCF : Hid (∀ w2 va vc, Sep w2 (w.heap.size + 2) ((⟨35, 1, .slice (some ⟨fb, 0, none⟩) zs.length fc, zs.length, vals zs⟩ :: (zs.take x.1.1).map rowL) ++ ⟨3, 1, .slice va (r.length - 1) vc, (nats (r.take p ++ r.drop (p + 1))).length, ints (nats (r.take p ++ r.drop (p + 1)))⟩ :: ((zs.drop (x.1.1 + 1)).map rowL ++ [cellOR 25 1 w1.heap.size [.slice (some ⟨fb, 0, none⟩) g.length fc]])) → w2.frozen? ⟨fb, x.1.1, none⟩ = false) := fun w2 va vc hs => Sep.frozen hs (x := ⟨35, 1, .slice (some ⟨fb, 0, none⟩) zs.length fc, zs.length, vals zs⟩) (by simp) rfl _
    have FIN : Hid (∀ w2 va vc, w2.ownsRow (w.heap.size + 2) 3 1 (.slice va (r.length - 1) vc) (r.length - 1) (ints (nats (r.take p ++ r.drop (p + 1)))) → V.drew.grownBy w2 (Value.slice ra r.length rc).ownBlock → (Value.slice va (r.length - 1) vc).ownBlock = (Value.slice ra r.length rc).ownBlock → (KeepsOthers V (w2.setCell ⟨fb, x.1.1, none⟩ (.slice va (r.length - 1) vc)) ∧ Stay (fun k => k < w.heap.size ∨ (w1.heap.size + 1 ≤ k ∧ k < X.heap.size)) X.heap.size T V (w2.setCell ⟨fb, x.1.1, none⟩ (.slice va (r.length - 1) vc)) ∧ ((∃ zs P, OwnR (w2.setCell ⟨fb, x.1.1, none⟩ (.slice va (r.length - 1) vc)) (w.heap.size + 2) (.slice (some ⟨fb, 0, none⟩) g.length fc) zs [cellOR 25 1 w1.heap.size [.slice (some ⟨fb, 0, none⟩) g.length fc]] ∧ lists zs = natsL P ∧ Cut g ((pre ++ [x]).map (·.1)) P ∧ ∀ y ∈ zs, ∀ b, y.v.ownBlock = some b → b < w1.heap.size) ∧ Boxed (w2.setCell ⟨fb, x.1.1, none⟩ (.slice va (r.length - 1) vc)) (w.heap.size + 1) 25 (.slice none 0 0) ∧ Below w.heap.size w (w2.setCell ⟨fb, x.1.1, none⟩ (.slice va (r.length - 1) vc)) ∧ T ≤ (w2.setCell ⟨fb, x.1.1, none⟩ (.slice va (r.length - 1) vc)).heap.size))) := fun w2 va vc ho2 hg2 he2 => by
      have hs := HT.out w2 va vc ho2 hg2 he2
      have hj := OwnR.join (y' := ⟨nats (r.take p ++ r.drop (p + 1)), .slice va (r.length - 1) vc⟩) HQ.out.2.2.2.2.2.2.2.2.2.1 hs
      rw [HQ.out.2.2.2.2.2.2.2.2.2.2.1] at hj
      have hblk : ∀ k, k < V.heap.size → (k < w.heap.size + 2 ∨ w1.heap.size ≤ k) → (w2.setCell ⟨fb, x.1.1, none⟩ (.slice va (r.length - 1) vc)).heap[k]? = V.heap[k]? := fun k hk hc => by
        rw [Below.heap_setCell _ _ _ _ (show k ≠ fb by omega)]
        exact hg2.block k hk (fun e => by have := hpos k e.symm; omega)
      have hsz : V.heap.size ≤ (w2.setCell ⟨fb, x.1.1, none⟩ (.slice va (r.length - 1) vc)).heap.size := by simp [World.setCell]; exact hg2.size
      have BV : Below w.heap.size w w2 := (below_drew HQ.out.2.2.2.2.1).grown hg2 (by show w.heap.size ≤ V.heap.size; omega) (fun k e => by have := hpos k e; omega)
      have hXV : X.heap.size ≤ V.heap.size := by omega
      refine ⟨(keeps_drew (KeepsOthers.of_grownBy hg2 (fun j o e ho => by obtain ⟨c', fz, hc⟩ := (hpos j e).2.2; have ho' : V.heap[j]? = some o := ho; rw [hc] at ho'; cases ho'; rfl))).trans (KeepsOthers.setCell _ _ _), ⟨⟨?_, ?_, ?_, hsz, fun k hk => absurd hk (by omega)⟩, fun k hk => hblk k (by rcases hk with hk | hk; (have := BX.size; omega); omega) (by omega)⟩, ⟨⟨_, P.set x.1.1 (r.take p ++ r.drop (p + 1)), hj, by rw [lists_set, HQ.out.2.1, natsL_set], ?_, fun y hy b hb => ?_⟩, ?_, BV.setCell (by show w.heap.size ≤ fb; omega) _, Nat.le_trans h6 hsz⟩⟩
      · exact hg2.os
      · exact hg2.tape
      · exact hg2.output
      · rw [List.map_append]
        have := Cut.step G HQ.out.2.2.1 HQ.out.2.2.2.2.2.2.1 HQ.out.2.2.2.2.2.2.2.1 HQ.out.2.2.2.2.2.2.2.2.1
        rw [HQ.out.2.2.2.2.2.2.2.2.2.2.2.1] at this
        exact this
      · rcases List.mem_or_eq_of_mem_set hy with hy | rfl
        · exact HQ.out.2.2.2.2.2.1 y hy b hb
        · exact (hpos b (by rw [← he2]; exact hb)).2.1
      · have hb4 := HQ.out.2.2.2.1
        exact (hblk (w.heap.size + 1) hb4.lt (by omega)).trans hb4
    clear hpos hVz hrn hwr
    gi_wp2_with (refine ⟨trivial, ?_⟩; gi_at_call 97; refine (CallsIn.inRound l (callsIn_wide.2 HI.out)).mono ?_; rintro e wi ⟨rfl, hwi⟩; subst wi)
    refine region_round rfl (by kernel_rfl) (by kernel_rfl) ?_
    refine wpAnyIn_take (i := 0) (v := ?_) rfl rfl (by kernel_rfl) (by kernel_rfl) (by kernel_rfl) (fun _ _ _ h => h) ⟨Or.inl ⟨by rfl, ?_⟩, fun _ => rfl⟩ ?_
    rotate_left
    focus (intro w; go_simp; first | done | with_reducible rfl)
    refine wpAnyIn_take (i := 2) (v := ?_) rfl rfl (by kernel_rfl) (by kernel_rfl) (by kernel_rfl) (fun _ _ _ h => h) ⟨Or.inl ⟨by rfl, ?_⟩, fun _ => rfl⟩ ?_
    rotate_left
    focus (intro w; go_simp; first | done | with_reducible rfl)
    refine wpAnyIn_take (i := 3) (v := ?_) rfl rfl (by kernel_rfl) (by kernel_rfl) (by kernel_rfl) (fun _ _ _ h => h) ⟨Or.inl ⟨by rfl, ?_⟩, fun _ => rfl⟩ ?_
    rotate_left
    focus (intro w; go_simp; first | done | with_reducible rfl)
    refine wpAnyIn_take (i := 5) (v := ?_) rfl rfl (by kernel_rfl) (by kernel_rfl) (by kernel_rfl) (fun _ _ _ h => h) ⟨Or.inl ⟨by rfl, ?_⟩, fun _ => rfl⟩ ?_
    rotate_left
    focus (intro w; go_simp; first | done | with_reducible rfl)
    refine wpAnyIn_take (i := 8) (v := ?_) rfl rfl (by kernel_rfl) (by kernel_rfl) (by kernel_rfl) (fun _ _ _ h => h) ⟨Or.inl ⟨by rfl, ?_⟩, fun _ => rfl⟩ ?_
    rotate_left
    focus (intro w; go_simp; first | done | with_reducible rfl)
    refine wpAnyIn_take (i := 9) (v := ?_) rfl rfl (by kernel_rfl) (by kernel_rfl) (by kernel_rfl) (fun _ _ _ h => h) ⟨Or.inl ⟨by rfl, ?_⟩, fun _ => rfl⟩ ?_
    rotate_left
    focus (intro w; go_simp; first | done | with_reducible rfl)
    refine wpAnyIn_take (i := 10) (v := ?_) rfl rfl (by kernel_rfl) (by kernel_rfl) (by kernel_rfl) (fun _ _ _ h => h) ⟨Or.inl ⟨by rfl, ?_⟩, fun _ => rfl⟩ ?_
    rotate_left
    focus (intro w; go_simp; first | done | with_reducible rfl)
    refine wpAnyIn_ready (rs := [1, 4]) (by kernel_rfl) (by simp) ?_
    refine AllReadyIn.cons rfl (fun K hK => ?_) ?_
    · go_simp
      refine hK _ _ ?_
      try clear hK K
      refine wpAnyIn_ready (rs := [4]) (by kernel_rfl) (by simp) ?_
      refine AllReadyIn.cons rfl (fun K hK => ?_) AllReadyIn.nil
      go_simp
      refine hK _ _ ?_
      try clear hK K
      refine wpAnyIn_ready (rs := [6]) (by kernel_rfl) (by simp) ?_
      refine AllReadyIn.cons rfl (fun K hK => ?_) AllReadyIn.nil
      go_simp
      refine hK _ _ ?_
      try clear hK K
      refine wpAnyIn_ready (rs := [7]) (by kernel_rfl) (by simp) ?_
      refine AllReadyIn.cons rfl (fun K hK => ?_) AllReadyIn.nil
      go_simp
      refine hK _ _ ?_
      try clear hK K
      refine wpAnyIn_ready (rs := [11]) (by kernel_rfl) (by simp) ?_
      refine AllReadyIn.cons rfl (fun K hK => ?_) AllReadyIn.nil
      go_simp
      gi_wp2_with (refine ⟨trivial, ?_⟩; gi_at_call 99; refine (callsIn_wide.2 HD.out).mono ?_; rintro e w2 ⟨va, vc, rfl, ho2, hg2, he2⟩; have hsd := HT.out w2 va vc ho2 hg2 he2; have k3 := HC3.out w2 va vc hsd; have kr := HCR.out w2 va vc hsd; have kf := HCF.out w2 va vc hsd; have HFN := hid (FIN.out w2 va vc ho2 hg2 he2); clear ho2 hg2 he2 hsd)
      try (refine hK _ _ ?_)
      try clear hK K
      refine wpAnyIn_ready (rs := [12]) (by kernel_rfl) (by simp) ?_
      refine AllReadyIn.cons rfl (fun K hK => ?_) AllReadyIn.nil
      go_simp
      refine hK _ _ ?_
      try clear hK K
      refine wpAnyIn_ready (rs := [13]) (by kernel_rfl) (by simp) ?_
      refine AllReadyIn.cons rfl (fun K hK => ?_) AllReadyIn.nil
      go_simp
      refine hK _ _ ?_
      try clear hK K
      refine wpAnyIn_done (by kernel_rfl) ?_ _
      gi_wp2_with fail
      exact HFN.out
    refine AllReadyIn.cons rfl (fun K hK => ?_) ?_
    · go_simp
      refine hK _ _ ?_
      try clear hK K
      refine wpAnyIn_ready (rs := [1, 6]) (by kernel_rfl) (by simp) ?_
      refine AllReadyIn.cons rfl (fun K hK => ?_) ?_
      · go_simp
        refine hK _ _ ?_
        try clear hK K
        refine wpAnyIn_ready (rs := [6]) (by kernel_rfl) (by simp) ?_
        refine AllReadyIn.cons rfl (fun K hK => ?_) AllReadyIn.nil
        go_simp
        refine hK _ _ ?_
        try clear hK K
        refine wpAnyIn_ready (rs := [7]) (by kernel_rfl) (by simp) ?_
        refine AllReadyIn.cons rfl (fun K hK => ?_) AllReadyIn.nil
        go_simp
        refine hK _ _ ?_
        try clear hK K
        refine wpAnyIn_ready (rs := [11]) (by kernel_rfl) (by simp) ?_
        refine AllReadyIn.cons rfl (fun K hK => ?_) AllReadyIn.nil
        go_simp
        gi_wp2_with (refine ⟨trivial, ?_⟩; gi_at_call 99; refine (callsIn_wide.2 HD.out).mono ?_; rintro e w2 ⟨va, vc, rfl, ho2, hg2, he2⟩; have hsd := HT.out w2 va vc ho2 hg2 he2; have k3 := HC3.out w2 va vc hsd; have kr := HCR.out w2 va vc hsd; have kf := HCF.out w2 va vc hsd; have HFN := hid (FIN.out w2 va vc ho2 hg2 he2); clear ho2 hg2 he2 hsd)
        try (refine hK _ _ ?_)
        try clear hK K
        refine wpAnyIn_ready (rs := [12]) (by kernel_rfl) (by simp) ?_
        refine AllReadyIn.cons rfl (fun K hK => ?_) AllReadyIn.nil
        go_simp
        refine hK _ _ ?_
        try clear hK K
        refine wpAnyIn_ready (rs := [13]) (by kernel_rfl) (by simp) ?_
        refine AllReadyIn.cons rfl (fun K hK => ?_) AllReadyIn.nil
        go_simp
        refine hK _ _ ?_
        try clear hK K
        refine wpAnyIn_done (by kernel_rfl) ?_ _
        gi_wp2_with fail
        exact HFN.out
      refine AllReadyIn.cons rfl (fun K hK => ?_) ?_
      · go_simp
        refine hK _ _ ?_
        try clear hK K
        refine wpAnyIn_ready (rs := [1, 7]) (by kernel_rfl) (by simp) ?_
        refine AllReadyIn.cons rfl (fun K hK => ?_) ?_
        · go_simp
          refine hK _ _ ?_
          try clear hK K
          refine wpAnyIn_ready (rs := [7]) (by kernel_rfl) (by simp) ?_
          refine AllReadyIn.cons rfl (fun K hK => ?_) AllReadyIn.nil
          go_simp
          refine hK _ _ ?_
          try clear hK K
          refine wpAnyIn_ready (rs := [11]) (by kernel_rfl) (by simp) ?_
          refine AllReadyIn.cons rfl (fun K hK => ?_) AllReadyIn.nil
          go_simp
          gi_wp2_with (refine ⟨trivial, ?_⟩; gi_at_call 99; refine (callsIn_wide.2 HD.out).mono ?_; rintro e w2 ⟨va, vc, rfl, ho2, hg2, he2⟩; have hsd := HT.out w2 va vc ho2 hg2 he2; have k3 := HC3.out w2 va vc hsd; have kr := HCR.out w2 va vc hsd; have kf := HCF.out w2 va vc hsd; have HFN := hid (FIN.out w2 va vc ho2 hg2 he2); clear ho2 hg2 he2 hsd)
          try (refine hK _ _ ?_)
          try clear hK K
          refine wpAnyIn_ready (rs := [12]) (by kernel_rfl) (by simp) ?_
          refine AllReadyIn.cons rfl (fun K hK => ?_) AllReadyIn.nil
          go_simp
          refine hK _ _ ?_
          try clear hK K
          refine wpAnyIn_ready (rs := [13]) (by kernel_rfl) (by simp) ?_
          refine AllReadyIn.cons rfl (fun K hK => ?_) AllReadyIn.nil
          go_simp
          refine hK _ _ ?_
          try clear hK K
          refine wpAnyIn_done (by kernel_rfl) ?_ _
          gi_wp2_with fail
          exact HFN.out
        refine AllReadyIn.cons rfl (fun K hK => ?_) ?_
        · go_simp
          refine hK _ _ ?_
          try clear hK K
          refine wpAnyIn_ready (rs := [1, 11]) (by kernel_rfl) (by simp) ?_
          refine AllReadyIn.cons rfl (fun K hK => ?_) ?_
          · go_simp
            refine hK _ _ ?_
            try clear hK K
            refine wpAnyIn_ready (rs := [11]) (by kernel_rfl) (by simp) ?_
            refine AllReadyIn.cons rfl (fun K hK => ?_) AllReadyIn.nil
            go_simp
            gi_wp2_with (refine ⟨trivial, ?_⟩; gi_at_call 99; refine (callsIn_wide.2 HD.out).mono ?_; rintro e w2 ⟨va, vc, rfl, ho2, hg2, he2⟩; have hsd := HT.out w2 va vc ho2 hg2 he2; have k3 := HC3.out w2 va vc hsd; have kr := HCR.out w2 va vc hsd; have kf := HCF.out w2 va vc hsd; have HFN := hid (FIN.out w2 va vc ho2 hg2 he2); clear ho2 hg2 he2 hsd)
            try (refine hK _ _ ?_)
            try clear hK K
            refine wpAnyIn_ready (rs := [12]) (by kernel_rfl) (by simp) ?_
            refine AllReadyIn.cons rfl (fun K hK => ?_) AllReadyIn.nil
            go_simp
            refine hK _ _ ?_
            try clear hK K
            refine wpAnyIn_ready (rs := [13]) (by kernel_rfl) (by simp) ?_
            refine AllReadyIn.cons rfl (fun K hK => ?_) AllReadyIn.nil
            go_simp
            refine hK _ _ ?_
            try clear hK K
            refine wpAnyIn_done (by kernel_rfl) ?_ _
            gi_wp2_with fail
            exact HFN.out
          refine AllReadyIn.cons rfl (fun K hK => ?_) ?_
          · go_simp
            gi_wp2_with (refine ⟨trivial, ?_⟩; gi_at_call 99; refine (callsIn_wide.2 HD.out).mono ?_; rintro e w2 ⟨va, vc, rfl, ho2, hg2, he2⟩; have hsd := HT.out w2 va vc ho2 hg2 he2; have k3 := HC3.out w2 va vc hsd; have kr := HCR.out w2 va vc hsd; have kf := HCF.out w2 va vc hsd; have HFN := hid (FIN.out w2 va vc ho2 hg2 he2); clear ho2 hg2 he2 hsd)
            try (refine hK _ _ ?_)
            try clear hK K
            refine wpAnyIn_ready (rs := [1]) (by kernel_rfl) (by simp) ?_
            refine AllReadyIn.cons rfl (fun K hK => ?_) AllReadyIn.nil
            go_simp
            refine hK _ _ ?_
            try clear hK K
            refine wpAnyIn_ready (rs := [12]) (by kernel_rfl) (by simp) ?_
            refine AllReadyIn.cons rfl (fun K hK => ?_) AllReadyIn.nil
            go_simp
            refine hK _ _ ?_
            try clear hK K
            refine wpAnyIn_ready (rs := [13]) (by kernel_rfl) (by simp) ?_
            refine AllReadyIn.cons rfl (fun K hK => ?_) AllReadyIn.nil
            go_simp
            refine hK _ _ ?_
            try clear hK K
            refine wpAnyIn_done (by kernel_rfl) ?_ _
            gi_wp2_with fail
            exact HFN.out
          exact AllReadyIn.nil
        exact AllReadyIn.nil
      exact AllReadyIn.nil
    exact AllReadyIn.nil
  case done =>
    rintro Dd T xs V hDd hS ⟨⟨zs, P, h1, h2, h3, h7⟩, h4, h5, h6⟩ hK
    have c3 : V.cell? ⟨w1.heap.size, 0, none⟩ = some (.slice (some ⟨fb, 0, none⟩) g.length fc) := rowT_at (OwnR.rest h1 (List.mem_singleton.2 rfl)) rfl rfl
    have c4 := h4.cell
    have f4 := h4.frozen
    rw [hS] at h3
    have hP := h3.end G HK.out.doms
    have hK' : (V.setCell ⟨w.heap.size + 1, 0, none⟩ (.slice (some ⟨fb, 0, none⟩) g.length fc)).heap[Dd]? = some (.deferred (some [])) := (KeepsOthers.setCell _ _ _).same Dd _ hK rfl
    have q4 := (h4.set (.slice (some ⟨fb, 0, none⟩) g.length fc)).cell
    have qB := h5.setCell (p := ⟨w.heap.size + 1, 0, none⟩) (by show w.heap.size ≤ w.heap.size + 1; omega) (.slice (some ⟨fb, 0, none⟩) g.length fc)
    have qS : Sep (V.setCell ⟨w.heap.size + 1, 0, none⟩ (.slice (some ⟨fb, 0, none⟩) g.length fc)) (w.heap.size + 2) (rowsL (.slice (some ⟨fb, 0, none⟩) g.length fc) zs) := (Only.setCell V (w.heap.size + 1) 0 _).sep h1.plain (fun y hy k hk e => by have := (Sep.size h1.plain hy hk).1; omega)
    gi_wp2
    refine ⟨by simp, .inl ⟨_, _, rfl, run_takeDeferred hK', ?_⟩⟩
    have q5 := cell_kept q4 (grownBy_putObj' _ Dd (.deferred none)) (fun r e => by cases e; exact ⟨_, hK', rfl⟩)
    exact ⟨.agg #[.slice (some ⟨fb, 0, none⟩) g.length fc], by simp [results, Tryz.results82, go_sem, q5], _, fc, zs, D, rfl, Sep.mono (Sep.calm qS (grownBy_putObj' _ Dd _) (fun r e => by cases e; exact ⟨_, hK', rfl⟩)) (by omega), HK.out.doms, by rw [h2, hP], qB.trans (belowK_b (w := w) (Nat.le_refl _) _ Dd _ _ (by have := BX.size; omega) hK' rfl rfl)⟩
  case stop =>
    rintro D c pre W _ _ h _
    exact h.elim
end

section
open Go.RowKit
set_option linter.unusedVariables false
set_option linter.unusedSimpArgs false
set_option maxRecDepth 100000

set_option maxHeartbeats 4000000 in
theorem sBack_any {g D : List (List Nat)} (G : Gr g) (hD : IsDoms g D) (a da : Option Addr) (c dc : Nat) (w : World) (h : GRow w a g) (hd : LRow w da (natsL D)) :
    Calls Tryz.prog 64 #[.agg #[.slice a g.length c], .slice da g.length dc] w fun e w' => ∃ v ys, e = .returned v ∧ OwnL w' w.heap.size v ys ∧ lists ys = pairsL (backL g D) ∧ Below w.heap.size w w' := by
  have hgm := G.most
  have H := hid (And.intro h hd)
  have HB := hid (backs_eq G hD)
  clear h hd
  have b0 := below1 w (.cells #[.slice a g.length c] 25)
  have z0 : (w.alloc (.cells #[.slice a g.length c] 25)).heap.size = w.heap.size + 1 := by simp
  go_enter Tryz.func64, Tryz.ntmps64
  go_wp2
  go_loopw [5, 13] (fun t5 t13 wr => ∃ (k : Nat) (oa : Option Addr) (oc : Nat) (ys : List LV), t13 = .int .i64 k ∧ k ≤ g.length ∧ t5 = .slice oa ys.length oc ∧ Made wr (w.heap.size + 1) [] (.slice oa ys.length oc) ys ∧ lists ys = pairsL ((rangeE g k).filter (isB D)) ∧ Below w.heap.size w wr ∧ w.heap.size + 1 ≤ wr.heap.size) (fun _ t13 _ => g.length - (intOf t13).toNat)
  case atStart => exact ⟨0, none, 0, [], rfl, by omega, rfl, ⟨by intro x hx; simp [vals] at hx; subst hx; exact World.ownsRow_nil _ _ _ _, by simp⟩, rfl, b0, by omega⟩
  case round =>
    obtain ⟨k, oa, oc, ys, rfl, hk, rfl, hm, hys, hB, hz⟩ := hrel
    by_cases hkt : k < g.length
    · obtain ⟨l, hl⟩ : ∃ l, g[k]? = some l := ⟨_, List.getElem?_eq_getElem hkt⟩
      obtain ⟨r, hr⟩ : ∃ r, D[k]? = some r := ⟨_, List.getElem?_eq_getElem (by rw [hD.1]; exact hkt)⟩
      have hll : l.length ≤ 12 := by have h1 := nodup_le (n := g.length) (rising_nodup (G.rising _ l hl)) (fun j hj => G.below _ l hl j hj); omega
      have hrl : r.length ≤ 12 := by have h1 := nodup_le (n := g.length) (rising_nodup (hD.2 _ r hr).1) (fun j hj => RchW.lt G (((hD.2 _ r hr).2 j).1 hj).2.1); omega
      obtain ⟨b, off, ta, tc, rfl, hcl, hrow, hbb⟩ := H.out.1.at' hB hl
      obtain ⟨db, doff, ra, rc, rfl, hcd, hrd, hdb⟩ := GRow.at' (g := D) H.out.2 hB hr
      have HR := hid (And.intro hrow (And.intro hrd (And.intro hl hr)))
      have HM := hid (And.intro hm hys)
      clear hrow hrd hm hys hl hr
      go_wp2
      obtain ⟨wo, rfl⟩ : ∃ wo : World, wo = wr := ⟨_, rfl⟩
      go_loopw [5, 20] (fun t5 t20 wq => ∃ (j : Nat) (oa : Option Addr) (oc : Nat) (ys : List LV), t20 = .int .i64 j ∧ j ≤ l.length ∧ t5 = .slice oa ys.length oc ∧ Made wq (w.heap.size + 1) [] (.slice oa ys.length oc) ys ∧ lists ys = pairsL ((rangeE g k ++ (l.take j).map (fun v => (k, v))).filter (isB D)) ∧ Below w.heap.size w wq ∧ w.heap.size + 1 ≤ wq.heap.size) (fun _ t20 _ => l.length - (intOf t20).toNat)
      case atStart => exact ⟨0, oa, oc, ys, rfl, by omega, rfl, HM.out.1, by simpa using HM.out.2, hB, hz⟩
      case round =>
        obtain ⟨j, oa2, oc2, ys2, rfl, hj, rfl, hm, hys, hB2, hz2⟩ := hrel
        have hyb : ys2.length ≤ 200 := by
          have h1 := congrArg List.length hys
          rw [lists_length] at h1
          simp only [pairsL, List.length_map] at h1
          have h2 := List.length_filter_le (isB D) (rangeE g k ++ (l.take j).map (fun v => (k, v)))
          have h3 := edges_few G (List.range k)
          simp only [List.length_append, List.length_map, List.length_range, List.length_take] at h2 h3
          unfold rangeE at h2 h1
          omega
        by_cases hjl : j < l.length
        · obtain ⟨x, hx⟩ : ∃ x, l[j]? = some x := ⟨_, List.getElem?_eq_getElem hjl⟩
          have hne : nats l ≠ [] := by intro e; have := congrArg List.length e; rw [nats_length] at this; simp only [List.length_nil] at this; omega
          obtain ⟨tb, toff, rfl, htb, hcs⟩ := HR.out.1.at hne
          obtain ⟨x', hcx, hx'⟩ := hcs wr hB2 j (by rw [nats_length]; exact hjl)
          obtain rfl : x' = (x : Int) := by have := hx'.out; simp [nats, hx] at this; exact this.symm
          have cd2 : wr.cell? ⟨db, doff + k, none⟩ = some (.slice ra r.length rc) := by
            obtain ⟨db', doff', ra', rc', e1, hcd', _, _⟩ := GRow.at' (g := D) H.out.2 hB2 HR.out.2.2.2
            injection e1 with e1
            injection e1 with e2 e3
            subst e2 e3
            obtain ⟨db2, doff2, ra2, rc2, e4, hcd2, _, _⟩ := GRow.at' (g := D) H.out.2 hB HR.out.2.2.2
            rw [hB2.cell (p := ⟨db, doff + k, none⟩) hdb, ← hB.cell (p := ⟨db, doff + k, none⟩) hdb]
            exact hcd
          have HH := hid (hasR_any ra rc r x wr (by omega) (HR.out.2.1.below hB2))
          have e1 : l.take (j + 1) = l.take j ++ [x] := by rw [List.take_add_one, hx]; rfl
          have HE : Hid ((rangeE g k ++ (l.take (j + 1)).map (fun v => (k, v))).filter (isB D) = (rangeE g k ++ (l.take j).map (fun v => (k, v))).filter (isB D) ++ [(k, x)].filter (isB D)) := by
            show _ = _
            rw [e1, List.map_append, ← List.append_assoc, List.filter_append]
            rfl
          have hib : isB D (k, x) = decide (x ∈ r) := by unfold isB; rw [List.getD_eq_getElem?_getD, HR.out.2.2.2]; rfl
          have HM2 := hid (And.intro hm hys)
          clear hm hys e1 hx hne hcs hx'
          by_cases hxr : x ∈ r
          · have tx : decide (x ∈ r) = true := decide_eq_true hxr
            rw [tx] at HH hib
            have HI : Hid ([(k, x)].filter (isB D) = [(k, x)]) := by show _ = _; simp [hib]
            clear tx hib hxr
            go_wp2_with fail
            refine HH.out.mono ?_
            rintro e w4 ⟨rfl, hw4⟩
            subst w4
            have bA := below1 wr (.cells #[.int .i64 (k : Int), .int .i64 (x : Int)] 3)
            have hpo := pair_own wr (k : Int) (x : Int)
            have HM3 := hid ((HM2.out.1.with bA hz2 ⟨[(k : Int), (x : Int)], .slice (some ⟨wr.heap.size, 0, none⟩) 2 2⟩ hpo).below (below1 (wr.alloc (.cells #[.int .i64 (k : Int), .int .i64 (x : Int)] 3)) (.cells #[.slice (some ⟨wr.heap.size, 0, none⟩) 2 2] 35)))
            have HN1 := hid (News.one (wr.alloc (.cells #[.int .i64 (k : Int), .int .i64 (x : Int)] 3)) (.slice (some ⟨wr.heap.size, 0, none⟩) 2 2) 35 (wr.heap.size + 1) (by simp) rfl)
            have HZ1 : Hid (w.heap.size + 1 ≤ ((wr.alloc (.cells #[.int .i64 (k : Int), .int .i64 (x : Int)] 3)).alloc (.cells #[.slice (some ⟨wr.heap.size, 0, none⟩) 2 2] 35)).heap.size) := by show w.heap.size + 1 ≤ _; simp; omega
            have HB2 := hid (hB2.trans ((below2 wr (.cells #[.int .i64 (k : Int), .int .i64 (x : Int)] 3) (.cells #[.slice (some ⟨wr.heap.size, 0, none⟩) 2 2] 35)).mono hB2.size))
            clear hpo bA
            go_wp2_with (at_builtin; refine wpList_append_sep eltLists rfl _ _ rfl (w.heap.size + 1) [] HM3.out rfl HN1.out rfl (by omega) HZ1.out ?_)
            intro va2 vc2 w5 hs2 hb2 hg2
            have HM4 : Hid (Made w5 (w.heap.size + 1) [] (.slice va2 (ys2.length + 1) vc2) (ys2 ++ [⟨[(k : Int), (x : Int)], .slice (some ⟨wr.heap.size, 0, none⟩) 2 2⟩])) := Made.grown (n := 0) (by simpa using hs2)
            have HB3 := hid (And.intro (HB2.out.trans (hb2.mono (by omega))) (Nat.le_trans HZ1.out hb2.size))
            clear hs2 hb2 hg2 HM3
            go_wp2
            go_roundw
            case rel =>
              refine ⟨j + 1, va2, vc2, ys2 ++ [⟨[(k : Int), (x : Int)], .slice (some ⟨wr.heap.size, 0, none⟩) 2 2⟩], by go_num, by omega, by rw [List.length_append]; rfl, ?_, ?_, HB3.out.1, HB3.out.2⟩
              · have := HM4.out; rw [List.length_append]; exact this
              · rw [HE.out, HI.out, pairsL_snoc, ← HM2.out.2]; simp [lists]
            case measure => simp [intOf]; omega
          · have tx : decide (x ∈ r) = false := decide_eq_false hxr
            rw [tx] at HH hib
            have HI : Hid ([(k, x)].filter (isB D) = []) := by show _ = _; simp [hib]
            clear tx hib hxr
            go_wp2_with fail
            refine HH.out.mono ?_
            rintro e w4 ⟨rfl, hw4⟩
            subst w4
            go_wp2
            go_roundw
            case rel => exact ⟨j + 1, oa2, oc2, ys2, by go_num, by omega, rfl, HM2.out.1, by rw [HE.out, HI.out, List.append_nil]; exact HM2.out.2, hB2, hz2⟩
            case measure => simp [intOf]; omega
        · obtain rfl : j = l.length := by omega
          rw [List.take_of_length_le (Nat.le_refl _), ← rangeE_succ g k HR.out.2.2.1] at hys
          have HF := hid (And.intro hm hys)
          clear hm hys
          go_wp2
          go_roundw
          case rel => exact ⟨k + 1, oa2, oc2, ys2, by go_num, by omega, rfl, HF.out.1, HF.out.2, hB2, hz2⟩
          case measure => simp [intOf]; omega
    · obtain rfl : k = g.length := by omega
      rw [HB.out] at hys
      have HF := hid (And.intro hm (And.intro hys hB))
      clear hm hys
      go_wp2
      go_ret
      exact ⟨_, ys, rfl, Sep.mono HF.out.1 (by omega), HF.out.2.1, HF.out.2.2⟩
end

section
open Go.RowKit
set_option linter.unusedVariables false
set_option linter.unusedSimpArgs false
set_option maxRecDepth 100000

def lenV (v : Value) : Nat := match v with | .slice _ n _ => n | _ => 0
set_option maxHeartbeats 8000000 in
theorem sCyclic_any {g D : List (List Nat)} (G : Gr g) (hD : IsDoms g D) (a da : Option Addr) (c dc : Nat) (w : World) (h : GRow w a g) (hd : LRow w da (natsL D)) :
    Calls Tryz.prog 63 #[.agg #[.slice a g.length c], .slice da g.length dc] w fun e w' => (∃ b : Bool, e = .returned (.bool b) ∧ (b = true ↔ Cyc2 g D)) ∧ Below w.heap.size w w' := by
  have hgm := G.most
  have H := hid (And.intro h hd)
  clear h hd
  have b0 := below1 w (.cells #[.slice a g.length c] 25)
  have d0 : (w.alloc (.cells #[.slice a g.length c] 25)).cell? ⟨w.heap.size, 0, none⟩ = some (.slice a g.length c) := by simp [go_sem]
  have z0 : (w.alloc (.cells #[.slice a g.length c] 25)).heap.size = w.heap.size + 1 := by simp
  have HW := hid (sWithout_any G a c (-1) (w.alloc (.cells #[.slice a g.length c] 25)) (LRow.below H.out.1 b0))
  go_enter Tryz.func63, Tryz.ntmps63
  go_wp2_with fail
  refine HW.out.mono ?_
  rintro e w1 ⟨la, lc, L, rfl, hL, ho1, hb1⟩
  have B1 := bstep' b0 hb1
  have d1 := cell_below d0 hb1
  have z1 : w.heap.size + 1 ≤ w1.heap.size := by have := hb1.size; omega
  rw [z0] at ho1
  have HL := hid (And.intro ho1 (LeftIs.begin (D := D) G hL))
  clear hL ho1 hb1 HW b0 d0
  go_wp2
  go_loopw [5] (fun t5 wr => ∃ (va : Option Addr) (vc : Nat) (left : List Nat), t5 = .slice va left.length vc ∧ wr.ownsRow (w.heap.size + 1) 3 1 (.slice va left.length vc) left.length (ints (nats left)) ∧ LeftIs g D left ∧ Below w.heap.size w wr ∧ w.heap.size + 1 ≤ wr.heap.size ∧ wr.cell? ⟨w.heap.size, 0, none⟩ = some (.slice a g.length c)) (fun t5 _ => lenV t5)
  case atStart => exact ⟨la, lc, L, rfl, HL.out.1, HL.out.2, B1, z1, d1⟩
  case round =>
    obtain ⟨va, vc, left, rfl, hown, hleft, hB, hz, dr⟩ := hrel
    have hf := hleft.few
    have HO := hid (And.intro hown hleft)
    clear hown hleft HL B1 d1 z1
    go_wp2
    obtain ⟨wo, rfl⟩ : ∃ wo : World, wo = wr := ⟨_, rfl⟩
    go_loopw [6, 16] (fun t6 t16 wq => ∃ (i : Nat) (na : Option Addr) (nc : Nat) (nx : List Nat), t16 = .int .i64 i ∧ i ≤ left.length ∧ t6 = .slice na nx.length nc ∧ Sep wq (w.heap.size + 1) ([⟨3, 1, .slice va left.length vc, left.length, ints (nats left)⟩] ++ ⟨3, 1, .slice na nx.length nc, nx.length, ints (nats nx)⟩ :: []) ∧ nx = (left.take i).filter (leadB g D left) ∧ Below w.heap.size w wq ∧ w.heap.size + 1 ≤ wq.heap.size ∧ wq.cell? ⟨w.heap.size, 0, none⟩ = some (.slice a g.length c)) (fun _ t16 _ => left.length - (intOf t16).toNat)
    case atStart =>
      refine ⟨0, none, 0, [], rfl, by omega, rfl, ⟨fun x hx => ?_, ?_⟩, by simp, hB, hz, dr⟩
      · simp at hx
        rcases hx with rfl | rfl
        · exact HO.out.1
        · exact World.ownsRow_nil _ _ _ _
      · simp
        exact apt.symm (.inl rfl)
    case round =>
      obtain ⟨i, na, nc, nx, rfl, hi, rfl, hsep, hnx, hB2, hz2, dr2⟩ := hrel
      have hnl : nx.length ≤ 12 := by rw [hnx]; exact Nat.le_trans (List.length_filter_le _ _) (Nat.le_trans (List.length_take_le' _ _) hf)
      have HS := hid (And.intro hsep hnx)
      have hlo := Sep.get hsep (x := ⟨3, 1, .slice va left.length vc, left.length, ints (nats left)⟩) (by simp)
      simp only [] at hlo
      clear hsep hnx
      by_cases hil : i < left.length
      · obtain ⟨k, hk⟩ : ∃ k, left[i]? = some k := ⟨_, List.getElem?_eq_getElem hil⟩
        have hkg : k < g.length := RchW.lt G (HO.out.2.come k (List.mem_of_getElem? hk))
        obtain ⟨l, hl⟩ : ∃ l, g[k]? = some l := ⟨_, List.getElem?_eq_getElem hkg⟩
        obtain ⟨r, hr⟩ : ∃ r, D[k]? = some r := ⟨_, List.getElem?_eq_getElem (by rw [hD.1]; exact hkg)⟩
        have hll : l.length ≤ 12 := by have h1 := nodup_le (n := g.length) (rising_nodup (G.rising _ l hl)) (fun j hj => G.below _ l hl j hj); omega
        have hrl : r.length ≤ 12 := by have h1 := nodup_le (n := g.length) (rising_nodup (hD.2 _ r hr).1) (fun j hj => RchW.lt G (((hD.2 _ r hr).2 j).1 hj).2.1); omega
        obtain ⟨lg, rfl⟩ : ∃ g, va = some ⟨g, 0, none⟩ := by
          rcases hlo.2 with ⟨h0, h1⟩ | ⟨g', cap, cur, he, _⟩
          · omega
          · injection he with e1 _ _; exact ⟨g', e1⟩
        have cx : wr.cell? ⟨lg, i, none⟩ = some (.int .i64 (k : Int)) := rowT_at hlo rfl (by simp [ints, nats, hk])
        obtain ⟨b, off, ta, tc, rfl, hcl, hrow, hbb⟩ := H.out.1.at' hB2 hl
        obtain ⟨db, doff, ra, rc, rfl, hcd, hrd, hdb⟩ := GRow.at' (g := D) H.out.2 hB2 hr
        have HH1 := hid (fun x => hasN_any (some ⟨lg, 0, none⟩) vc left x wr (by omega) _ hlo)
        have HH2 := hid (fun x => hasR_any ra rc r x wr (by omega) (hrd.below hB2))
        have HR := hid (And.intro hrow (And.intro hk (And.intro hl hr)))
        clear hrow hrd hk hl hr hlo
        go_wp2
        go_loop [9, 26] (fun t9 t26 => ∃ (j : Nat), t26 = .int .i64 j ∧ j ≤ l.length ∧ t9 = .bool ((l.take j).any fun x => decide (x ∈ left) && !(isB D (k, x)))) (fun _ t26 => l.length - (intOf t26).toNat)
        case atStart => exact ⟨0, rfl, by omega, by simp⟩
        case round =>
          obtain ⟨j, rfl, hj, rfl⟩ := hrel
          by_cases hjl : j < l.length
          · obtain ⟨x, hx⟩ : ∃ x, l[j]? = some x := ⟨_, List.getElem?_eq_getElem hjl⟩
            have hne : nats l ≠ [] := by intro e; have := congrArg List.length e; rw [nats_length] at this; simp only [List.length_nil] at this; omega
            obtain ⟨tb, toff, rfl, htb, hcs⟩ := HR.out.1.at hne
            obtain ⟨x', hcx, hx'⟩ := hcs wr hB2 j (by rw [nats_length]; exact hjl)
            obtain rfl : x' = (x : Int) := by have := hx'.out; simp [nats, hx] at this; exact this.symm
            have hib : isB D (k, x) = decide (x ∈ r) := by unfold isB; rw [List.getD_eq_getElem?_getD, HR.out.2.2.2]; rfl
            have HE : Hid (((l.take (j + 1)).any fun x => decide (x ∈ left) && !(isB D (k, x))) = (((l.take j).any fun x => decide (x ∈ left) && !(isB D (k, x))) || (decide (x ∈ left) && !(decide (x ∈ r))))) := by
              show _ = _
              rw [List.take_add_one, hx, List.any_append]
              simp [hib]
            have h1 := HH1.out x
            have h2 := HH2.out x
            obtain ⟨ld, hld⟩ : ∃ ld : Bool, ((l.take j).any fun x => decide (x ∈ left) && !(isB D (k, x))) = ld := ⟨_, rfl⟩
            obtain ⟨c1, hc1⟩ : ∃ c1 : Bool, decide (x ∈ left) = c1 := ⟨_, rfl⟩
            obtain ⟨c2, hc2⟩ : ∃ c2 : Bool, decide (x ∈ r) = c2 := ⟨_, rfl⟩
            rw [hld, hc1, hc2] at HE
            rw [hc1] at h1
            rw [hc2] at h2
            rw [hld]
            have K1 := hid h1
            have K2 := hid h2
            clear h1 h2 hib hx hne hcs hx' hc1 hc2 hld
            cases ld
            · cases c1
              · go_wp2_with fail
                refine K1.out.mono ?_
                rintro e w4 ⟨rfl, hw4⟩
                subst w4
                go_wp2
                go_round
                case rel => exact ⟨j + 1, by go_num, by omega, by rw [HE.out]; rfl⟩
                case measure => simp [intOf]; omega
              · go_wp2_with fail
                refine K1.out.mono ?_
                rintro e w4 ⟨rfl, hw4⟩
                subst w4
                go_wp2_with fail
                refine K2.out.mono ?_
                rintro e w5 ⟨rfl, hw5⟩
                subst w5
                go_wp2
                go_round
                case rel => exact ⟨j + 1, by go_num, by omega, by rw [HE.out]; simp⟩
                case measure => simp [intOf]; omega
            · go_wp2
              go_round
              case rel => exact ⟨j + 1, by go_num, by omega, by rw [HE.out]; rfl⟩
              case measure => simp [intOf]; omega
          · obtain rfl : j = l.length := by omega
            have HF : Hid (leadB g D left k = (l.any fun x => decide (x ∈ left) && !(isB D (k, x)))) := by show _ = _; unfold leadB; rw [List.getD_eq_getElem?_getD, HR.out.2.2.1]; rfl
            have HT : Hid ((left.take (i + 1)).filter (leadB g D left) = (left.take i).filter (leadB g D left) ++ [k].filter (leadB g D left)) := by
              show _ = _
              rw [List.take_add_one, HR.out.2.1, List.filter_append]
              rfl
            rw [List.take_of_length_le (Nat.le_refl _)]
            obtain ⟨ld, hld⟩ : ∃ ld : Bool, (l.any fun x => decide (x ∈ left) && !(isB D (k, x))) = ld := ⟨_, rfl⟩
            rw [hld] at HF ⊢
            clear hld
            cases ld
            · have HN : Hid ((left.take (i + 1)).filter (leadB g D left) = nx) := by show _ = _; rw [HT.out, HS.out.2]; simp [HF.out]
              go_wp2
              go_roundw
              case rel => exact ⟨i + 1, na, nc, nx, by go_num, by omega, rfl, HS.out.1, HN.out.symm, hB2, hz2, dr2⟩
              case measure => simp [intOf]; omega
            · have HN : Hid ((left.take (i + 1)).filter (leadB g D left) = nx ++ [k]) := by show _ = _; rw [HT.out, HS.out.2]; simp [HF.out]
              have bA := below1 wr (.cells #[.int .i64 (k : Int)] 3)
              have HS3 := hid (Sep.below HS.out.1 bA)
              have HN1 := hid (News.one wr (.int .i64 (k : Int)) 3 _ rfl rfl)
              have HZ1 : Hid (w.heap.size + 1 ≤ (wr.alloc (.cells #[.int .i64 (k : Int)] 3)).heap.size) := by show w.heap.size + 1 ≤ _; simp; omega
              have HB2 := hid (And.intro (hB2.trans (bA.mono hB2.size)) (cell_below dr2 bA))
              clear bA
              go_wp2_with (at_builtin; refine wpList_append_sep eltInt rfl _ _ rfl (w.heap.size + 1) [⟨3, 1, .slice (some ⟨lg, 0, none⟩) left.length vc, left.length, ints (nats left)⟩] HS3.out rfl HN1.out rfl (by omega) HZ1.out ?_)
              intro va2 vc2 w5 hs2 hb2 hg2
              have HK := hid (And.intro hs2 (And.intro (HB2.out.1.trans (hb2.mono (by omega))) (And.intro (Nat.le_trans HZ1.out hb2.size) (show w5.cell? ⟨w.heap.size, 0, none⟩ = _ from (hb2.cell (p := ⟨w.heap.size, 0, none⟩) (by show w.heap.size < w.heap.size + 1; omega)).trans HB2.out.2))))
              clear hs2 hb2 hg2 HS3
              go_wp2
              go_roundw
              case rel =>
                refine ⟨i + 1, va2, vc2, nx ++ [k], by go_num, by omega, by rw [List.length_append]; rfl, ?_, HN.out.symm, HK.out.2.1, HK.out.2.2.1, HK.out.2.2.2⟩
                have := HK.out.1
                rw [List.length_append]
                have e : ints (nats (nx ++ [k])) = ints (nats nx) ++ [.int .i64 (k : Int)] := by simp [ints, nats]
                rw [e]
                exact this
              case measure => simp [intOf]; omega
      · obtain rfl : i = left.length := by omega
        have hnx := HS.out.2
        rw [List.take_of_length_le (Nat.le_refl _)] at hnx
        have HN := hid hnx
        have hle : nx.length ≤ left.length := by rw [hnx]; exact List.length_filter_le _ _
        have HNO : Hid (wr.ownsRow (w.heap.size + 1) 3 1 (.slice na nx.length nc) nx.length (ints (nats nx))) := Sep.get HS.out.1 (x := ⟨3, 1, .slice na nx.length nc, nx.length, ints (nats nx)⟩) (by simp)
        clear hnx hlo
        by_cases he : nx.length = left.length
        · have HE := hid (LeftIs.end HO.out.2 (by rw [← HN.out]; exact he))
          go_wp2
          go_ret
          exact ⟨⟨_, rfl, by simpa using HE.out⟩, hB2⟩
        · have HL2 : Hid (LeftIs g D nx) := by show LeftIs g D nx; rw [HN.out]; exact HO.out.2.next
          go_wp2
          go_roundw
          case rel => exact ⟨na, nc, nx, rfl, HNO.out, HL2.out, hB2, hz2, dr2⟩
          case measure => simp [lenV]; omega
end

section
open Go.RowKit
set_option linter.unusedVariables false
set_option linter.unusedSimpArgs false
set_option maxRecDepth 100000

theorem doms_sum {g P : List (List Nat)} (G : Gr g) (h : IsDoms g P) : (natsL P).length ≤ 1000 ∧ sumL (natsL P) ≤ 1000 := by
  have hgm := G.most
  have hl : (natsL P).length ≤ 12 := by simp [natsL, h.1]; exact hgm
  have := sum_good (n := 12) (m := 12) hl (fun t ht => by
    obtain ⟨r, hr, rfl⟩ := List.mem_map.1 ht
    obtain ⟨k, hk⟩ := List.mem_iff_getElem?.1 hr
    have h8 := nodup_le (n := g.length) (rising_nodup (h.2 k r hk).1) (fun x hx => RchW.lt G (((h.2 k r hk).2 x).1 hx).2.1)
    rw [nats_length]
    omega)
  exact ⟨by omega, by omega⟩
theorem doms_are {g : List (List Nat)} (G : Gr g) : ∃ P, IsDoms g P := by
  classical
  refine ⟨(List.range g.length).map fun k => (List.range g.length).filter fun x => decide (Dom g x k), by simp, fun k r hr => ?_⟩
  rw [List.getElem?_map] at hr
  obtain ⟨k', hk', rfl⟩ := Option.map_eq_some_iff.1 hr
  obtain ⟨h1, h2⟩ := List.getElem?_eq_some_iff.1 hk'
  rw [List.getElem_range] at h2
  subst h2
  refine ⟨List.Pairwise.filter _ List.pairwise_lt_range, fun x => ?_⟩
  rw [List.mem_filter, List.mem_range, decide_eq_true_iff]
  exact ⟨fun h => h.2, fun h => ⟨RchW.lt G h.2.1, h⟩⟩
end

section
open Go.RowKit
set_option linter.unusedVariables false
set_option linter.unusedSimpArgs false
set_option maxRecDepth 100000

set_option maxHeartbeats 1000000 in
theorem iIsReducible_bad (a : Option Addr) (c : Nat) (xs : List (List Int)) (w : World) (hl : xs.length ≤ 9223372036854775807) (h : LRow w a xs) (hG : ¬ GoodG xs) :
    Calls Tryz.prog 54 #[.agg #[.slice a xs.length c]] w fun e w' => e = .returned (.tuple #[.bool false, .bool false]) ∧ Below w.heap.size w w' := by
  have HC := hid (fun W hb => iGood_any a c xs false W hl (h.below hb) (by simp [hG]))
  clear h
  go_enter Tryz.func54, Tryz.ntmps54
  go_wp2_with fail
  refine (HC.out _ (below1 w _)).mono ?_
  rintro e w1 ⟨rfl, hb1⟩
  have HB := hid (bstep' (below1 w _) hb1)
  clear hb1
  go_wp2
  go_ret2
  exact ⟨rfl, HB.out⟩
set_option maxHeartbeats 2000000 in
theorem iIsReducible_good {g : List (List Nat)} (G : Gr g) (a : Option Addr) (c : Nat) (w : World) (h : GRow w a g) (hG : GoodG (g.map nats)) :
    Calls Tryz.prog 54 #[.agg #[.slice a g.length c]] w fun e w' => (∃ (b : Bool) (D : List (List Nat)), e = .returned (.tuple #[.bool (!b), .bool true]) ∧ IsDoms g D ∧ (b = true ↔ Cyc2 g D)) ∧ Below w.heap.size w w' := by
  have hgm := G.most
  have HC : Hid (∀ W, Below w.heap.size w W → Calls Tryz.prog 33 #[.agg #[.slice a g.length c]] W fun e w' => e = .returned (.bool true) ∧ Below W.heap.size W w') := fun W hb => by
    have := iGood_any a c (g.map nats) true W (by simp; omega) (LRow.below h hb) (by simp [hG])
    rwa [List.length_map] at this
  have HO := hid (fun W (hb : Below w.heap.size w W) => without_any G a c W (LRow.below h hb))
  have HL : Hid (∀ W D va vc, LRow W va (natsL (fwd g D)) → Calls Tryz.prog 81 #[.agg #[.slice va g.length vc]] W fun e w' => (∃ b : Bool, e = .returned (.bool b) ∧ (b = true ↔ Cyc (fwd g D))) ∧ Below W.heap.size W w') := fun W D va vc hv => by
    have := leadsRound_any (G.fwd D) va vc W hv
    rwa [fwd_len] at this
  clear h
  go_enter Tryz.func54, Tryz.ntmps54
  go_wp2_with fail
  refine (HC.out _ (below1 w _)).mono ?_
  rintro e w1 ⟨rfl, hb1⟩
  have d1 : w1.cell? ⟨w.heap.size, 0, none⟩ = some (.slice a g.length c) := cell_below (by simp [go_sem]) hb1
  have B1 := bstep' (below1 w _) hb1
  clear hb1
  go_wp2_with fail
  refine (HO.out _ B1).mono ?_
  rintro e w2 ⟨va, vc, ys, D, rfl, ho2, hD, hy2, hb2⟩
  have B2 := bstep' B1 hb2
  have HLR := hid (HL.out w2 D va vc (own_lrow ho2 hy2))
  have HD := hid hD
  clear ho2 hD hy2 hb2
  go_wp2_with fail
  refine HLR.out.mono ?_
  rintro e w3 ⟨⟨b, rfl, hb⟩, hb3⟩
  have HF := hid (And.intro (hb.trans (cyc_fwd G HD.out)) (bstep' B2 hb3))
  clear hb hb3
  go_wp2
  go_ret2
  exact ⟨⟨b, D, rfl, HD.out, HF.out.1⟩, HF.out.2⟩
/-- both sides answer so -/
def AnsBB (sp im : Nat) (xs : List (List Int)) (R G : Bool) : Prop :=
  (∀ (a : Option Addr) (c : Nat) (w : World), LRow w a xs → Calls Tryz.prog sp #[.agg #[.slice a xs.length c]] w fun e w' => e = .returned (.tuple #[.bool R, .bool G]) ∧ Below w.heap.size w w') ∧
  (∀ (a : Option Addr) (c : Nat) (w : World), LRow w a xs → Calls Tryz.prog im #[.agg #[.slice a xs.length c]] w fun e w' => e = .returned (.tuple #[.bool R, .bool G]) ∧ Below w.heap.size w w')
end
end Go.Proofs.YtiadmmnnbnamjaaGreat
