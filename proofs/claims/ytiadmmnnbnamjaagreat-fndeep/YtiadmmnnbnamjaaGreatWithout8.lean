/- The program's graph without back edges. -/
import Derived.Test.YtiadmmnnbnamjaaGreatJ2
import Derived.Test.YtiadmmnnbnamjaaGreatOwn8
import Derived.Test.YtiadmmnnbnamjaaGreatRound8
import Derived.Test.YtiadmmnnbnamjaaGreatIback8
import Derived.Test.YtiadmmnnbnamjaaGreatCopy7
namespace Go.Proofs.YtiadmmnnbnamjaaGreat
open Go Go.RowKit Go.Shelf
attribute [local go_sem] Oper.semAt_some
set_option linter.unusedVariables false
set_option linter.unusedSimpArgs false
set_option maxRecDepth 100000

set_option maxHeartbeats 8000000 in
theorem without_any {g : List (List Nat)} (G : Gr g) (a : Option Addr) (c : Nat) (w : World) (h : GRow w a g) :
    Calls Tryz.prog 82 #[.agg #[.slice a g.length c]] w fun e w' => ∃ va vc ys D, e = .returned (.agg #[.slice va g.length vc]) ∧ OwnL w' w.heap.size (.slice va g.length vc) ys ∧ IsDoms g D ∧ lists ys = natsL (fwd g D) ∧ Below w.heap.size w w' := by
  have hgm := G.most
  have hgp := G.pos
  have H := hid h
  have b0 := below2 w (.cells #[.slice a g.length c] 25) (.cells #[.slice none 0 0] 25)
  have z0 : ((w.alloc (.cells #[.slice a g.length c] 25)).alloc (.cells #[.slice none 0 0] 25)).heap.size = w.heap.size + 2 := by simp
  have d0 : ((w.alloc (.cells #[.slice a g.length c] 25)).alloc (.cells #[.slice none 0 0] 25)).cell? ⟨w.heap.size, 0, none⟩ = some (.slice a g.length c) := ((Boxed.new w 25 (.slice a g.length c)).alloc _).cell
  have x0 : Boxed ((w.alloc (.cells #[.slice a g.length c] 25)).alloc (.cells #[.slice none 0 0] 25)) (w.heap.size + 1) 25 (.slice none 0 0) := by
    have := Boxed.new (w.alloc (.cells #[.slice a g.length c] 25)) 25 (.slice none 0 0)
    rw [World.size_alloc] at this
    exact this
  have HCP : Hid (Calls Tryz.prog 98 #[.agg #[.slice a g.length c]] ((w.alloc (.cells #[.slice a g.length c] 25)).alloc (.cells #[.slice none 0 0] 25)) fun e w' => ∃ fb fc ys, e = .returned (.agg #[.slice (some ⟨fb, 0, none⟩) g.length fc]) ∧ OwnL w' (w.heap.size + 2) (.slice (some ⟨fb, 0, none⟩) g.length fc) ys ∧ lists ys = natsL g ∧ Below ((w.alloc (.cells #[.slice a g.length c] 25)).alloc (.cells #[.slice none 0 0] 25)).heap.size ((w.alloc (.cells #[.slice a g.length c] 25)).alloc (.cells #[.slice none 0 0] 25)) w') := by
    have h1 := copyGraph_any a c (g.map nats) ((w.alloc (.cells #[.slice a g.length c] 25)).alloc (.cells #[.slice none 0 0] 25)) (by simp; omega) (fun i l hl => by
      rw [List.getElem?_map] at hl
      obtain ⟨l0, hl0, rfl⟩ := Option.map_eq_some_iff.1 hl
      rw [nats_length]
      have h2 := nodup_le (n := g.length) (rising_nodup (G.rising _ l0 hl0)) (fun j hj => G.below _ l0 hl0 j hj)
      omega) (LRow.below h b0)
    rw [List.length_map] at h1
    refine h1.mono ?_
    rintro e w' ⟨v, ys, rfl, ho, hy, hb⟩
    rw [z0] at ho
    obtain ⟨fa, fc, e1, _⟩ := ho.row
    rw [hy, List.length_map] at e1
    subst e1
    have hout := ho.outer
    obtain ⟨fb, rfl⟩ : ∃ b, fa = some ⟨b, 0, none⟩ := by
      rcases hout.2 with ⟨h0, h1⟩ | ⟨g', cap, cur, he, _⟩
      · injection h0 with _ e2 _; omega
      · injection he with e1 _ _; exact ⟨g', e1⟩
    exact ⟨fb, fc, ys, rfl, ho, hy, hb⟩
  have HB := hid (fun W (hb : Below w.heap.size w W) => backEdgesIn_any G a c W (LRow.below H.out hb))
  clear h
  refine (callsIn_wide (n := 14)).1 ?_
  refine callsIn_of_wp_marks Tryz.func82 rfl trivial ?_ rfl
  simp only [Tryz.ntmps82, List.size_toArray, List.length_cons, List.length_nil, Nat.reduceAdd, Nat.reduceSub, Array.replicate_succ, Array.replicate_zero, List.push_toArray, List.append_toArray, List.nil_append, List.cons_append]
  gi_wp2_with (first | (refine ⟨trivial, ?_⟩; gi_at_call 98; refine (callsIn_wide.2 HCP.out).mono ?_; rintro e w1 ⟨fb, fc, cs, rfl, hoc, hyc, hbc⟩; have B1 := bstep' b0 hbc; have d1 := cell_below d0 hbc; have b2 := below1 w1 (.cells #[.slice (some ⟨fb, 0, none⟩) g.length fc] 25); have d2 := cell_below d1 b2; have B2 := bstep' B1 b2) | (refine ⟨trivial, ?_⟩; gi_at_call 83; refine (callsIn_wide.2 (HB.out _ B2)).mono ?_; rintro e X ⟨Bd, db, dc, ys, D, rfl, hbk⟩))
  have z1 : w.heap.size + 2 ≤ w1.heap.size := by have := hbc.size; omega
  have z2 : (w1.alloc (.cells #[.slice (some ⟨fb, 0, none⟩) g.length fc] 25)).heap.size = w1.heap.size + 1 := by simp
  have BX : Below w.heap.size w X := bstep' B2 hbk.below
  have zX := hbk.below.size
  have x2 : Boxed X (w.heap.size + 1) 25 (.slice none 0 0) := boxed_below (boxed_below (boxed_below x0 hbc) b2) hbk.below
  have hgX : w1.heap.size + 1 < X.heap.size := by have h1 : (w1.alloc (.cells #[.slice (some ⟨fb, 0, none⟩) g.length fc] 25)).heap.size < X.heap.size := World.block_lt_of_cell? X _ hbk.box; omega
  have hdX : Bd < X.heap.size := World.block_lt_of_cell? X _ hbk.dbox
  have hfar := hbk.far
  rw [z2] at hfar zX
  have xbox := hbk.box
  rw [z2] at xbox
  have hfb : w.heap.size + 2 ≤ fb ∧ fb < w1.heap.size := hoc.outer.lt fb rfl
  have hcb : ∀ y ∈ cs, ∀ b, y.v.ownBlock = some b → b < w1.heap.size := fun y hy b hb => ((hoc.inner hy).lt b hb).2
  have hR : OwnR (w1.alloc (.cells #[.slice (some ⟨fb, 0, none⟩) g.length fc] 25)) (w.heap.size + 2) (.slice (some ⟨fb, 0, none⟩) g.length fc) cs [cellOR 25 1 w1.heap.size [.slice (some ⟨fb, 0, none⟩) g.length fc]] := by
    refine Sep.append hoc b2 z1 ⟨fun y hy => ?_, by simp⟩
    simp at hy
    subst hy
    exact cell_own (cs := #[.slice (some ⟨fb, 0, none⟩) g.length fc]) (World.alloc_heap_new _ _) rfl (Nat.le_refl _)
  have HRX := hid (hR.below hbk.below)
  have HK := hid hbk
  have HCY := hid (And.intro hyc hcb)
  clear hbk hbc hoc B1 d1 b2 d2 B2 HCP HB b0 d0 x0 hR hyc hcb
  refine range_own2 rfl (by omega) (gf := 100) (lb := #[.pointer (some ⟨w1.heap.size + 1, 0, none⟩), .pointer (some ⟨Bd, 0, none⟩)]) rfl trivial (enters_of Tryz.func100 (by kernel_rfl) rfl)
    (back_own2 G a c D HK.out.doms _ (by omega) (w1.heap.size + 1) Bd db dc _ ys (fun k => k < w.heap.size ∨ (w1.heap.size + 1 ≤ k ∧ k < X.heap.size)) w X H.out BX (fun k hk => .inl hk) (.inr ⟨Nat.le_refl _, hgX⟩) (.inr ⟨by omega, hdX⟩) (fun k hk => by have := BX.size; omega) xbox HK.out.dbox HK.out.own HK.out.are (fun y hy k hk => by have := Sep.size HK.out.own hy hk; rw [z2] at this; exact .inr ⟨by omega, this.2⟩)) (fun k hk => by have := BX.size; omega) (Below.refl _ _) (fun _ => rfl)
    (fun T pre V => (∃ zs P, OwnR V (w.heap.size + 2) (.slice (some ⟨fb, 0, none⟩) g.length fc) zs [cellOR 25 1 w1.heap.size [.slice (some ⟨fb, 0, none⟩) g.length fc]] ∧ lists zs = natsL P ∧ Cut g (pre.map (·.1)) P ∧ ∀ y ∈ zs, ∀ b, y.v.ownBlock = some b → b < w1.heap.size) ∧ Boxed V (w.heap.size + 1) 25 (.slice none 0 0) ∧ Below w.heap.size w V ∧ T ≤ V.heap.size)
    (fun _ _ _ => False)
    (fun T s A B row hs hg hr => by
      obtain ⟨⟨zs, P, h1, h2, h3, h7⟩, h4, h5, h6⟩ := hs
      exact ⟨⟨zs, P, Sep.calm h1 hg (fun r e => (hr r e).2), h2, h3, h7⟩, h4.kept hg (fun e => by have := (hr _ e.symm).1; omega), h5.grown hg h5.size (fun k e => by have := (hr _ e).1; have := BX.size; omega), Nat.le_trans h6 hg.size⟩)
    (fun _ _ _ _ _ hs _ _ => hs)
    (fun W' hg => ⟨⟨cs, g, Sep.calm HRX.out hg (fun r e => by cases e), HCY.out.1, Cut.begin g, HCY.out.2⟩, x2.kept hg (by simp), BX.grown hg BX.size (fun k e => by cases e), Nat.le_refl _⟩)
    (fun x => { tmps := #[Value.agg #[Value.slice a g.length c], Value.pointer (some { block := w.heap.size, off := 0 }), Value.pointer (some { block := w.heap.size + 1, off := 0 }), Value.pointer (some { block := w1.heap.size, off := 0 }), .int .i64 (x.1.1 : Int), .int .i64 (x.1.2 : Int), undef, Value.agg #[Value.slice a g.length c], Value.agg #[Value.slice (some ⟨fb, 0, none⟩) g.length fc], Value.agg #[Value.slice a g.length c], Value.func (Fn.func 100) #[] #[Value.pointer (some { block := w1.heap.size + 1, off := 0 }), Value.pointer (some { block := Bd, off := 0 })], .int .i64 (x.1.1 : Int), .int .i64 (x.1.2 : Int), undef, undef, undef, undef, undef, undef, undef, undef, undef, undef, undef, undef, undef, undef, undef, undef, undef, undef, undef, undef, undef], defers := [] }) ?assign ?body ?done ?stop
  case assign =>
    intro l x W K hK
    gi_wp2
    exact hK
  case body =>
    rintro l T pre x V hT ⟨⟨zs, P, h1, h2, h3, h7⟩, h4, h5, h6⟩ hlen hsp
    have hu : x.1.1 < g.length := RchW.lt G x.2.1
    obtain ⟨lu, hlu, hvu⟩ := x.2.2
    obtain ⟨r, hr⟩ : ∃ r, P[x.1.1]? = some r := ⟨_, List.getElem?_eq_getElem (by rw [h3.1]; exact hu)⟩
    have hnew : x.1 ∉ pre.map (·.1) := back_new G (by rw [List.map_append] at hsp; exact hsp)
    have hvr : x.1.2 ∈ r := h3.has hlu hr hvu hnew
    obtain ⟨rv, hrv⟩ := own_of_lists h2 hr
    have hzl : zs.length = g.length := (lists_len h2).trans h3.1
    have hro := h1.plain.inner (List.mem_of_getElem? hrv)
    simp only [nats_length] at hro
    obtain ⟨ra, rc, e1⟩ := slice_of_owned hro
    subst e1
    have hrl : r.length ≤ 12 := by
      have h8 : r.length ≤ lu.length := by rw [h3.2 _ lu r hlu hr]; exact List.length_filter_le _ _
      have h9 := nodup_le (n := g.length) (rising_nodup (G.rising _ lu hlu)) (fun j hj => G.below _ lu hlu j hj)
      omega
    have c3 : V.cell? ⟨w1.heap.size, 0, none⟩ = some (.slice (some ⟨fb, 0, none⟩) g.length fc) := rowT_at (OwnR.rest h1 (List.mem_singleton.2 rfl)) rfl rfl
    have cr : V.cell? ⟨fb, x.1.1, none⟩ = some (.slice ra r.length rc) := rowT_at h1.plain.outer rfl (show (vals zs)[x.1.1]? = _ by simp [vals, hrv])
    have cf : V.frozen? ⟨fb, x.1.1, none⟩ = false := rowT_frz h1.plain.outer rfl _
    obtain ⟨p, hp⟩ : ∃ p, r.idxOf x.1.2 = p := ⟨_, rfl⟩
    have hpl : p < r.length := by rw [← hp]; exact (idx_spec hvr).1
    have HI := hid (index_any _ ra rc r x.1.2 V (by omega) hro hvr)
    rw [hp] at HI
    have hwr : IntKind.i64.wrap ((p : Int) + 1) = (p : Int) + 1 := by rw [IntKind.wrap_i64]; omega
    have HD : Hid (Calls Tryz.prog 99 #[.slice ra r.length rc, .int .i64 (p : Int), .int .i64 (IntKind.i64.wrap ((p : Int) + 1))] V.drew fun e w' => ∃ va vc, e = .returned (.slice va (r.length - 1) vc) ∧ w'.ownsRow (w.heap.size + 2) 3 1 (.slice va (r.length - 1) vc) (r.length - 1) (ints (nats (r.take p ++ r.drop (p + 1)))) ∧ V.drew.grownBy w' (Value.slice ra r.length rc).ownBlock ∧ (Value.slice va (r.length - 1) vc).ownBlock = (Value.slice ra r.length rc).ownBlock) := by
      have := delete_any (w.heap.size + 2) (.slice ra r.length rc) (nats r) p V.drew (by rw [nats_length]; exact hpl) (by rw [nats_length]; omega) (by rw [nats_length]; exact owns_drew hro)
      rw [nats_length, show (nats r).take p ++ (nats r).drop (p + 1) = nats (r.take p ++ r.drop (p + 1)) by simp [nats, List.map_take, List.map_drop]] at this
      rw [hwr]
      exact this
    have HQ := hid (And.intro h1 (And.intro h2 (And.intro h3 (And.intro h4 (And.intro h5 (And.intro h7 (And.intro hlu (And.intro hr (And.intro hvr (And.intro hrv (And.intro hzl (And.intro hp hro))))))))))))
    have hVz := h5.size
    clear h1 h2 h3 h4 h5 h7 hlu hr hvr hrv hzl hvu hnew hsp hp hro
    have hrn : (r.take p ++ r.drop (p + 1)).length = r.length - 1 := by rw [List.length_append, List.length_take, List.length_drop]; omega
    have hpos : ∀ k, (Value.slice ra r.length rc).ownBlock = some k → w.heap.size + 2 ≤ k ∧ k < w1.heap.size ∧ ∃ c' fz, V.heap[k]? = some (.cells c' 3 fz) := fun k hk => ⟨(HQ.out.2.2.2.2.2.2.2.2.2.2.2.2.lt k hk).1, HQ.out.2.2.2.2.2.1 _ (List.mem_of_getElem? HQ.out.2.2.2.2.2.2.2.2.2.1) k hk, own_kind HQ.out.2.2.2.2.2.2.2.2.2.2.2.2 hk⟩
    have HT : Hid (∀ w2 va vc, w2.ownsRow (w.heap.size + 2) 3 1 (.slice va (r.length - 1) vc) (r.length - 1) (ints (nats (r.take p ++ r.drop (p + 1)))) → V.drew.grownBy w2 (Value.slice ra r.length rc).ownBlock → (Value.slice va (r.length - 1) vc).ownBlock = (Value.slice ra r.length rc).ownBlock → Sep w2 (w.heap.size + 2) ((⟨35, 1, .slice (some ⟨fb, 0, none⟩) zs.length fc, zs.length, vals zs⟩ :: (zs.take x.1.1).map rowL) ++ ⟨3, 1, .slice va (r.length - 1) vc, (nats (r.take p ++ r.drop (p + 1))).length, ints (nats (r.take p ++ r.drop (p + 1)))⟩ :: ((zs.drop (x.1.1 + 1)).map rowL ++ [cellOR 25 1 w1.heap.size [.slice (some ⟨fb, 0, none⟩) g.length fc]]))) := fun w2 va vc ho2 hg2 he2 => by
      have hsp0 := (OwnR.split HQ.out.1 HQ.out.2.2.2.2.2.2.2.2.2.1).turn _ (bdr (Below.refl _ _)) hg2 ⟨3, 1, .slice va (r.length - 1) vc, (nats (r.take p ++ r.drop (p + 1))).length, ints (nats (r.take p ++ r.drop (p + 1)))⟩ (by show World.ownsRow _ _ _ _ _ _ _; rw [nats_length, hrn]; exact ho2) (fun k hk => .inl (by rw [← hk]; exact he2.symm))
      have e0 : (Value.slice (some ⟨fb, 0, none⟩) g.length fc) = (Value.slice (some ⟨fb, 0, none⟩) zs.length fc) := by rw [HQ.out.2.2.2.2.2.2.2.2.2.2.1]
      rw [show (⟨35, 1, .slice (some ⟨fb, 0, none⟩) zs.length fc, zs.length, vals zs⟩ : OR) = ⟨35, 1, .slice (some ⟨fb, 0, none⟩) g.length fc, zs.length, vals zs⟩ from by rw [e0]]
      exact hsp0
    have HC3 : Hid (∀ w2 va vc, Sep w2 (w.heap.size + 2) ((⟨35, 1, .slice (some ⟨fb, 0, none⟩) zs.length fc, zs.length, vals zs⟩ :: (zs.take x.1.1).map rowL) ++ ⟨3, 1, .slice va (r.length - 1) vc, (nats (r.take p ++ r.drop (p + 1))).length, ints (nats (r.take p ++ r.drop (p + 1)))⟩ :: ((zs.drop (x.1.1 + 1)).map rowL ++ [cellOR 25 1 w1.heap.size [.slice (some ⟨fb, 0, none⟩) g.length fc]])) → w2.cell? ⟨w1.heap.size, 0, none⟩ = some (.slice (some ⟨fb, 0, none⟩) g.length fc)) := fun w2 va vc hs => Sep.cell hs (x := cellOR 25 1 w1.heap.size [.slice (some ⟨fb, 0, none⟩) g.length fc]) (by simp) rfl rfl
    have HCR : Hid (∀ w2 va vc, Sep w2 (w.heap.size + 2) ((⟨35, 1, .slice (some ⟨fb, 0, none⟩) zs.length fc, zs.length, vals zs⟩ :: (zs.take x.1.1).map rowL) ++ ⟨3, 1, .slice va (r.length - 1) vc, (nats (r.take p ++ r.drop (p + 1))).length, ints (nats (r.take p ++ r.drop (p + 1)))⟩ :: ((zs.drop (x.1.1 + 1)).map rowL ++ [cellOR 25 1 w1.heap.size [.slice (some ⟨fb, 0, none⟩) g.length fc]])) → w2.cell? ⟨fb, x.1.1, none⟩ = some (.slice ra r.length rc)) := fun w2 va vc hs => Sep.cell hs (x := ⟨35, 1, .slice (some ⟨fb, 0, none⟩) zs.length fc, zs.length, vals zs⟩) (by simp) rfl (by simp [vals, HQ.out.2.2.2.2.2.2.2.2.2.1])
    have HCF : Hid (∀ w2 va vc, Sep w2 (w.heap.size + 2) ((⟨35, 1, .slice (some ⟨fb, 0, none⟩) zs.length fc, zs.length, vals zs⟩ :: (zs.take x.1.1).map rowL) ++ ⟨3, 1, .slice va (r.length - 1) vc, (nats (r.take p ++ r.drop (p + 1))).length, ints (nats (r.take p ++ r.drop (p + 1)))⟩ :: ((zs.drop (x.1.1 + 1)).map rowL ++ [cellOR 25 1 w1.heap.size [.slice (some ⟨fb, 0, none⟩) g.length fc]])) → w2.frozen? ⟨fb, x.1.1, none⟩ = false) := fun w2 va vc hs => Sep.frozen hs (x := ⟨35, 1, .slice (some ⟨fb, 0, none⟩) zs.length fc, zs.length, vals zs⟩) (by simp) rfl _
    have FIN : Hid (∀ w2 va vc, w2.ownsRow (w.heap.size + 2) 3 1 (.slice va (r.length - 1) vc) (r.length - 1) (ints (nats (r.take p ++ r.drop (p + 1)))) → V.drew.grownBy w2 (Value.slice ra r.length rc).ownBlock → (Value.slice va (r.length - 1) vc).ownBlock = (Value.slice ra r.length rc).ownBlock → (KeepsOthers V (w2.setCell ⟨fb, x.1.1, none⟩ (.slice va (r.length - 1) vc)) ∧ Stay (fun k => k < w.heap.size ∨ (w1.heap.size + 1 ≤ k ∧ k < X.heap.size)) X.heap.size T V (w2.setCell ⟨fb, x.1.1, none⟩ (.slice va (r.length - 1) vc)) ∧ ((∃ zs P, OwnR (w2.setCell ⟨fb, x.1.1, none⟩ (.slice va (r.length - 1) vc)) (w.heap.size + 2) (.slice (some ⟨fb, 0, none⟩) g.length fc) zs [cellOR 25 1 w1.heap.size [.slice (some ⟨fb, 0, none⟩) g.length fc]] ∧ lists zs = natsL P ∧ Cut g ((pre ++ [x]).map (·.1)) P ∧ ∀ y ∈ zs, ∀ b, y.v.ownBlock = some b → b < w1.heap.size) ∧ Boxed (w2.setCell ⟨fb, x.1.1, none⟩ (.slice va (r.length - 1) vc)) (w.heap.size + 1) 25 (.slice none 0 0) ∧ Below w.heap.size w (w2.setCell ⟨fb, x.1.1, none⟩ (.slice va (r.length - 1) vc)) ∧ T ≤ (w2.setCell ⟨fb, x.1.1, none⟩ (.slice va (r.length - 1) vc)).heap.size))) := fun w2 va vc ho2 hg2 he2 => by
      have hs := HT.out w2 va vc ho2 hg2 he2
      have hj := OwnR.join (y' := ⟨nats (r.take p ++ r.drop (p + 1)), .slice va (r.length - 1) vc⟩) HQ.out.2.2.2.2.2.2.2.2.2.1 hs
      rw [HQ.out.2.2.2.2.2.2.2.2.2.2.1] at hj
      have hblk : ∀ k, k < V.heap.size → (k < w.heap.size + 2 ∨ w1.heap.size ≤ k) → (w2.setCell ⟨fb, x.1.1, none⟩ (.slice va (r.length - 1) vc)).heap[k]? = V.heap[k]? := fun k hk hc => by
        rw [Below.heap_setCell _ _ _ _ (show k ≠ fb by omega)]
        exact hg2.block k hk (fun e => by have := hpos k e.symm; omega)
      have hsz : V.heap.size ≤ (w2.setCell ⟨fb, x.1.1, none⟩ (.slice va (r.length - 1) vc)).heap.size := by simp [World.setCell]; exact hg2.size
      have BV : Below w.heap.size w w2 := (below_drew HQ.out.2.2.2.2.1).grown hg2 (by show w.heap.size ≤ V.heap.size; omega) (fun k e => by have := hpos k e; omega)
      have hXV : X.heap.size ≤ V.heap.size := by omega
      refine ⟨(keeps_drew (KeepsOthers.of_grownBy hg2 (fun j o e ho => by obtain ⟨c', fz, hc⟩ := (hpos j e).2.2; have ho' : V.heap[j]? = some o := ho; rw [hc] at ho'; cases ho'; rfl))).trans (KeepsOthers.setCell _ _ _), ⟨⟨?_, ?_, ?_, hsz, fun k hk => absurd hk (by omega)⟩, fun k hk => hblk k (by rcases hk with hk | hk; (have := BX.size; omega); omega) (by omega)⟩, ⟨⟨_, P.set x.1.1 (r.take p ++ r.drop (p + 1)), hj, by rw [lists_set, HQ.out.2.1, natsL_set], ?_, fun y hy b hb => ?_⟩, ?_, BV.setCell (by show w.heap.size ≤ fb; omega) _, Nat.le_trans h6 hsz⟩⟩
      · exact hg2.os
      · exact hg2.tape
      · exact hg2.output
      · rw [List.map_append]
        have := Cut.step G HQ.out.2.2.1 HQ.out.2.2.2.2.2.2.1 HQ.out.2.2.2.2.2.2.2.1 HQ.out.2.2.2.2.2.2.2.2.1
        rw [HQ.out.2.2.2.2.2.2.2.2.2.2.2.1] at this
        exact this
      · rcases List.mem_or_eq_of_mem_set hy with hy | rfl
        · exact HQ.out.2.2.2.2.2.1 y hy b hb
        · exact (hpos b (by rw [← he2]; exact hb)).2.1
      · have hb4 := HQ.out.2.2.2.1
        exact (hblk (w.heap.size + 1) hb4.lt (by omega)).trans hb4
    clear hpos hVz hrn hwr
    gi_wp2_with (refine ⟨trivial, ?_⟩; gi_at_call 97; refine (CallsIn.inRound l (callsIn_wide.2 HI.out)).mono ?_; rintro e wi ⟨rfl, hwi⟩; subst wi)
    refine region_round rfl (by kernel_rfl) (by kernel_rfl) ?_
    refine wpAnyIn_take (i := 0) (v := ?_) rfl rfl (by kernel_rfl) (by kernel_rfl) (by kernel_rfl) (fun _ _ _ h => h) ⟨Or.inl ⟨by rfl, ?_⟩, fun _ => rfl⟩ ?_
    rotate_left
    focus (intro w; go_simp; first | done | with_reducible rfl)
    refine wpAnyIn_take (i := 2) (v := ?_) rfl rfl (by kernel_rfl) (by kernel_rfl) (by kernel_rfl) (fun _ _ _ h => h) ⟨Or.inl ⟨by rfl, ?_⟩, fun _ => rfl⟩ ?_
    rotate_left
    focus (intro w; go_simp; first | done | with_reducible rfl)
    refine wpAnyIn_take (i := 3) (v := ?_) rfl rfl (by kernel_rfl) (by kernel_rfl) (by kernel_rfl) (fun _ _ _ h => h) ⟨Or.inl ⟨by rfl, ?_⟩, fun _ => rfl⟩ ?_
    rotate_left
    focus (intro w; go_simp; first | done | with_reducible rfl)
    refine wpAnyIn_take (i := 5) (v := ?_) rfl rfl (by kernel_rfl) (by kernel_rfl) (by kernel_rfl) (fun _ _ _ h => h) ⟨Or.inl ⟨by rfl, ?_⟩, fun _ => rfl⟩ ?_
    rotate_left
    focus (intro w; go_simp; first | done | with_reducible rfl)
    refine wpAnyIn_take (i := 8) (v := ?_) rfl rfl (by kernel_rfl) (by kernel_rfl) (by kernel_rfl) (fun _ _ _ h => h) ⟨Or.inl ⟨by rfl, ?_⟩, fun _ => rfl⟩ ?_
    rotate_left
    focus (intro w; go_simp; first | done | with_reducible rfl)
    refine wpAnyIn_take (i := 9) (v := ?_) rfl rfl (by kernel_rfl) (by kernel_rfl) (by kernel_rfl) (fun _ _ _ h => h) ⟨Or.inl ⟨by rfl, ?_⟩, fun _ => rfl⟩ ?_
    rotate_left
    focus (intro w; go_simp; first | done | with_reducible rfl)
    refine wpAnyIn_take (i := 10) (v := ?_) rfl rfl (by kernel_rfl) (by kernel_rfl) (by kernel_rfl) (fun _ _ _ h => h) ⟨Or.inl ⟨by rfl, ?_⟩, fun _ => rfl⟩ ?_
    rotate_left
    focus (intro w; go_simp; first | done | with_reducible rfl)
    refine wpAnyIn_ready (rs := [1, 4]) (by kernel_rfl) (by simp) ?_
    refine AllReadyIn.cons rfl (fun K hK => ?_) ?_
    · go_simp
      refine hK _ _ ?_
      try clear hK K
      refine wpAnyIn_ready (rs := [4]) (by kernel_rfl) (by simp) ?_
      refine AllReadyIn.cons rfl (fun K hK => ?_) AllReadyIn.nil
      go_simp
      refine hK _ _ ?_
      try clear hK K
      refine wpAnyIn_ready (rs := [6]) (by kernel_rfl) (by simp) ?_
      refine AllReadyIn.cons rfl (fun K hK => ?_) AllReadyIn.nil
      go_simp
      refine hK _ _ ?_
      try clear hK K
      refine wpAnyIn_ready (rs := [7]) (by kernel_rfl) (by simp) ?_
      refine AllReadyIn.cons rfl (fun K hK => ?_) AllReadyIn.nil
      go_simp
      refine hK _ _ ?_
      try clear hK K
      refine wpAnyIn_ready (rs := [11]) (by kernel_rfl) (by simp) ?_
      refine AllReadyIn.cons rfl (fun K hK => ?_) AllReadyIn.nil
      go_simp
      gi_wp2_with (refine ⟨trivial, ?_⟩; gi_at_call 99; refine (callsIn_wide.2 HD.out).mono ?_; rintro e w2 ⟨va, vc, rfl, ho2, hg2, he2⟩; have hsd := HT.out w2 va vc ho2 hg2 he2; have k3 := HC3.out w2 va vc hsd; have kr := HCR.out w2 va vc hsd; have kf := HCF.out w2 va vc hsd; have HFN := hid (FIN.out w2 va vc ho2 hg2 he2); clear ho2 hg2 he2 hsd)
      try (refine hK _ _ ?_)
      try clear hK K
      refine wpAnyIn_ready (rs := [12]) (by kernel_rfl) (by simp) ?_
      refine AllReadyIn.cons rfl (fun K hK => ?_) AllReadyIn.nil
      go_simp
      refine hK _ _ ?_
      try clear hK K
      refine wpAnyIn_ready (rs := [13]) (by kernel_rfl) (by simp) ?_
      refine AllReadyIn.cons rfl (fun K hK => ?_) AllReadyIn.nil
      go_simp
      refine hK _ _ ?_
      try clear hK K
      refine wpAnyIn_done (by kernel_rfl) ?_ _
      gi_wp2_with fail
      exact HFN.out
    refine AllReadyIn.cons rfl (fun K hK => ?_) ?_
    · go_simp
      refine hK _ _ ?_
      try clear hK K
      refine wpAnyIn_ready (rs := [1, 6]) (by kernel_rfl) (by simp) ?_
      refine AllReadyIn.cons rfl (fun K hK => ?_) ?_
      · go_simp
        refine hK _ _ ?_
        try clear hK K
        refine wpAnyIn_ready (rs := [6]) (by kernel_rfl) (by simp) ?_
        refine AllReadyIn.cons rfl (fun K hK => ?_) AllReadyIn.nil
        go_simp
        refine hK _ _ ?_
        try clear hK K
        refine wpAnyIn_ready (rs := [7]) (by kernel_rfl) (by simp) ?_
        refine AllReadyIn.cons rfl (fun K hK => ?_) AllReadyIn.nil
        go_simp
        refine hK _ _ ?_
        try clear hK K
        refine wpAnyIn_ready (rs := [11]) (by kernel_rfl) (by simp) ?_
        refine AllReadyIn.cons rfl (fun K hK => ?_) AllReadyIn.nil
        go_simp
        gi_wp2_with (refine ⟨trivial, ?_⟩; gi_at_call 99; refine (callsIn_wide.2 HD.out).mono ?_; rintro e w2 ⟨va, vc, rfl, ho2, hg2, he2⟩; have hsd := HT.out w2 va vc ho2 hg2 he2; have k3 := HC3.out w2 va vc hsd; have kr := HCR.out w2 va vc hsd; have kf := HCF.out w2 va vc hsd; have HFN := hid (FIN.out w2 va vc ho2 hg2 he2); clear ho2 hg2 he2 hsd)
        try (refine hK _ _ ?_)
        try clear hK K
        refine wpAnyIn_ready (rs := [12]) (by kernel_rfl) (by simp) ?_
        refine AllReadyIn.cons rfl (fun K hK => ?_) AllReadyIn.nil
        go_simp
        refine hK _ _ ?_
        try clear hK K
        refine wpAnyIn_ready (rs := [13]) (by kernel_rfl) (by simp) ?_
        refine AllReadyIn.cons rfl (fun K hK => ?_) AllReadyIn.nil
        go_simp
        refine hK _ _ ?_
        try clear hK K
        refine wpAnyIn_done (by kernel_rfl) ?_ _
        gi_wp2_with fail
        exact HFN.out
      refine AllReadyIn.cons rfl (fun K hK => ?_) ?_
      · go_simp
        refine hK _ _ ?_
        try clear hK K
        refine wpAnyIn_ready (rs := [1, 7]) (by kernel_rfl) (by simp) ?_
        refine AllReadyIn.cons rfl (fun K hK => ?_) ?_
        · go_simp
          refine hK _ _ ?_
          try clear hK K
          refine wpAnyIn_ready (rs := [7]) (by kernel_rfl) (by simp) ?_
          refine AllReadyIn.cons rfl (fun K hK => ?_) AllReadyIn.nil
          go_simp
          refine hK _ _ ?_
          try clear hK K
          refine wpAnyIn_ready (rs := [11]) (by kernel_rfl) (by simp) ?_
          refine AllReadyIn.cons rfl (fun K hK => ?_) AllReadyIn.nil
          go_simp
          gi_wp2_with (refine ⟨trivial, ?_⟩; gi_at_call 99; refine (callsIn_wide.2 HD.out).mono ?_; rintro e w2 ⟨va, vc, rfl, ho2, hg2, he2⟩; have hsd := HT.out w2 va vc ho2 hg2 he2; have k3 := HC3.out w2 va vc hsd; have kr := HCR.out w2 va vc hsd; have kf := HCF.out w2 va vc hsd; have HFN := hid (FIN.out w2 va vc ho2 hg2 he2); clear ho2 hg2 he2 hsd)
          try (refine hK _ _ ?_)
          try clear hK K
          refine wpAnyIn_ready (rs := [12]) (by kernel_rfl) (by simp) ?_
          refine AllReadyIn.cons rfl (fun K hK => ?_) AllReadyIn.nil
          go_simp
          refine hK _ _ ?_
          try clear hK K
          refine wpAnyIn_ready (rs := [13]) (by kernel_rfl) (by simp) ?_
          refine AllReadyIn.cons rfl (fun K hK => ?_) AllReadyIn.nil
          go_simp
          refine hK _ _ ?_
          try clear hK K
          refine wpAnyIn_done (by kernel_rfl) ?_ _
          gi_wp2_with fail
          exact HFN.out
        refine AllReadyIn.cons rfl (fun K hK => ?_) ?_
        · go_simp
          refine hK _ _ ?_
          try clear hK K
          refine wpAnyIn_ready (rs := [1, 11]) (by kernel_rfl) (by simp) ?_
          refine AllReadyIn.cons rfl (fun K hK => ?_) ?_
          · go_simp
            refine hK _ _ ?_
            try clear hK K
            refine wpAnyIn_ready (rs := [11]) (by kernel_rfl) (by simp) ?_
            refine AllReadyIn.cons rfl (fun K hK => ?_) AllReadyIn.nil
            go_simp
            gi_wp2_with (refine ⟨trivial, ?_⟩; gi_at_call 99; refine (callsIn_wide.2 HD.out).mono ?_; rintro e w2 ⟨va, vc, rfl, ho2, hg2, he2⟩; have hsd := HT.out w2 va vc ho2 hg2 he2; have k3 := HC3.out w2 va vc hsd; have kr := HCR.out w2 va vc hsd; have kf := HCF.out w2 va vc hsd; have HFN := hid (FIN.out w2 va vc ho2 hg2 he2); clear ho2 hg2 he2 hsd)
            try (refine hK _ _ ?_)
            try clear hK K
            refine wpAnyIn_ready (rs := [12]) (by kernel_rfl) (by simp) ?_
            refine AllReadyIn.cons rfl (fun K hK => ?_) AllReadyIn.nil
            go_simp
            refine hK _ _ ?_
            try clear hK K
            refine wpAnyIn_ready (rs := [13]) (by kernel_rfl) (by simp) ?_
            refine AllReadyIn.cons rfl (fun K hK => ?_) AllReadyIn.nil
            go_simp
            refine hK _ _ ?_
            try clear hK K
            refine wpAnyIn_done (by kernel_rfl) ?_ _
            gi_wp2_with fail
            exact HFN.out
          refine AllReadyIn.cons rfl (fun K hK => ?_) ?_
          · go_simp
            gi_wp2_with (refine ⟨trivial, ?_⟩; gi_at_call 99; refine (callsIn_wide.2 HD.out).mono ?_; rintro e w2 ⟨va, vc, rfl, ho2, hg2, he2⟩; have hsd := HT.out w2 va vc ho2 hg2 he2; have k3 := HC3.out w2 va vc hsd; have kr := HCR.out w2 va vc hsd; have kf := HCF.out w2 va vc hsd; have HFN := hid (FIN.out w2 va vc ho2 hg2 he2); clear ho2 hg2 he2 hsd)
            try (refine hK _ _ ?_)
            try clear hK K
            refine wpAnyIn_ready (rs := [1]) (by kernel_rfl) (by simp) ?_
            refine AllReadyIn.cons rfl (fun K hK => ?_) AllReadyIn.nil
            go_simp
            refine hK _ _ ?_
            try clear hK K
            refine wpAnyIn_ready (rs := [12]) (by kernel_rfl) (by simp) ?_
            refine AllReadyIn.cons rfl (fun K hK => ?_) AllReadyIn.nil
            go_simp
            refine hK _ _ ?_
            try clear hK K
            refine wpAnyIn_ready (rs := [13]) (by kernel_rfl) (by simp) ?_
            refine AllReadyIn.cons rfl (fun K hK => ?_) AllReadyIn.nil
            go_simp
            refine hK _ _ ?_
            try clear hK K
            refine wpAnyIn_done (by kernel_rfl) ?_ _
            gi_wp2_with fail
            exact HFN.out
          exact AllReadyIn.nil
        exact AllReadyIn.nil
      exact AllReadyIn.nil
    exact AllReadyIn.nil
  case done =>
    rintro Dd T xs V hDd hS ⟨⟨zs, P, h1, h2, h3, h7⟩, h4, h5, h6⟩ hK
    have c3 : V.cell? ⟨w1.heap.size, 0, none⟩ = some (.slice (some ⟨fb, 0, none⟩) g.length fc) := rowT_at (OwnR.rest h1 (List.mem_singleton.2 rfl)) rfl rfl
    have c4 := h4.cell
    have f4 := h4.frozen
    rw [hS] at h3
    have hP := h3.end G HK.out.doms
    have hK' : (V.setCell ⟨w.heap.size + 1, 0, none⟩ (.slice (some ⟨fb, 0, none⟩) g.length fc)).heap[Dd]? = some (.deferred (some [])) := (KeepsOthers.setCell _ _ _).same Dd _ hK rfl
    have q4 := (h4.set (.slice (some ⟨fb, 0, none⟩) g.length fc)).cell
    have qB := h5.setCell (p := ⟨w.heap.size + 1, 0, none⟩) (by show w.heap.size ≤ w.heap.size + 1; omega) (.slice (some ⟨fb, 0, none⟩) g.length fc)
    have qS : Sep (V.setCell ⟨w.heap.size + 1, 0, none⟩ (.slice (some ⟨fb, 0, none⟩) g.length fc)) (w.heap.size + 2) (rowsL (.slice (some ⟨fb, 0, none⟩) g.length fc) zs) := (Only.setCell V (w.heap.size + 1) 0 _).sep h1.plain (fun y hy k hk e => by have := (Sep.size h1.plain hy hk).1; omega)
    gi_wp2
    refine ⟨by simp, .inl ⟨_, _, rfl, run_takeDeferred hK', ?_⟩⟩
    have q5 := cell_kept q4 (grownBy_putObj' _ Dd (.deferred none)) (fun r e => by cases e; exact ⟨_, hK', rfl⟩)
    exact ⟨.agg #[.slice (some ⟨fb, 0, none⟩) g.length fc], by simp [results, Tryz.results82, go_sem, q5], _, fc, zs, D, rfl, Sep.mono (Sep.calm qS (grownBy_putObj' _ Dd _) (fun r e => by cases e; exact ⟨_, hK', rfl⟩)) (by omega), HK.out.doms, by rw [h2, hP], qB.trans (belowK_b (w := w) (Nat.le_refl _) _ Dd _ _ (by have := BX.size; omega) hK' rfl rfl)⟩
  case stop =>
    rintro D c pre W _ _ h _
    exact h.elim
end Go.Proofs.YtiadmmnnbnamjaaGreat
