/- The program's look for an edge that does not lead on in the order. -/
import Derived.Test.YtiadmmnnbnamjaaGreatQ3
namespace Go.Proofs.YtiadmmnnbnamjaaGreat
open Go Go.RowKit Go.Shelf
attribute [local go_sem] Oper.semAt_some
set_option linter.unusedVariables false
set_option linter.unusedSimpArgs false
set_option maxRecDepth 100000

theorem idx_spec {x : Nat} : ∀ {s : List Nat}, x ∈ s → s.idxOf x < s.length ∧ s[s.idxOf x]? = some x ∧ ∀ j, j < s.idxOf x → s[j]? ≠ some x
  | [], h => by cases h
  | y :: s, h => by
    by_cases e : y = x
    · subst e
      rw [List.idxOf_cons_self]
      exact ⟨by simp, by simp, fun j hj => by omega⟩
    · have hx : x ∈ s := by
        rcases List.mem_cons.1 h with h | h
        · exact absurd h.symm e
        · exact h
      obtain ⟨h1, h2, h3⟩ := idx_spec hx
      rw [List.idxOf_cons, show (y == x) = false from beq_eq_false_iff_ne.2 e]
      refine ⟨by simpa using h1, by simpa using h2, fun j hj => ?_⟩
      cases j with
      | zero => simpa using e
      | succ j => simpa using h3 j (by simpa using hj)
theorem index_any (B : Nat) (a : Option Addr) (c : Nat) (s : List Nat) (x : Nat) (w : World) (hl : s.length ≤ 1000) (ho : w.ownsRow B 3 1 (.slice a s.length c) s.length (ints (nats s))) (hx : x ∈ s) :
    Calls Tryz.prog 97 #[.slice a s.length c, .int .i64 (x : Int)] w fun e w' => e = .returned (.int .i64 ((s.idxOf x : Nat) : Int)) ∧ w' = w := by
  obtain ⟨h1, h2, h3⟩ := idx_spec hx
  have hp := List.length_pos_of_mem hx
  obtain ⟨b, rfl⟩ : ∃ b, a = some ⟨b, 0, none⟩ := by
    rcases ho.2 with ⟨h0, h1⟩ | ⟨g', cap, cur, he, _⟩
    · omega
    · injection he with e1 _ _; exact ⟨g', e1⟩
  have hg : ∀ (j y : Nat), s[j]? = some y → (nats s).getD j 0 = (y : Int) := fun j y hy => by simp [List.getD_eq_getElem?_getD, nats, hy]
  have := Tryz.slices_Index_int b 0 s.length c (nats s) (x : Int) w (by rw [nats_length]; omega) (by omega) (fun j hj => by
    rw [nats_length] at hj
    obtain ⟨y, hy⟩ : ∃ y, s[j]? = some y := ⟨_, List.getElem?_eq_getElem hj⟩
    rw [hg j y hy, Nat.zero_add]
    exact rowT_at ho rfl (by simp [ints, nats, hy]))
  rw [Lib.idxOf_hit (nats s) s.length (s.idxOf x) (x : Int) h1 (by rw [nats_length]; omega) (hg _ x h2) (fun j hj e => by
    obtain ⟨y, hy⟩ : ∃ y, s[j]? = some y := ⟨_, List.getElem?_eq_getElem (by omega)⟩
    rw [hg j y hy] at e
    have : y = x := by omega
    subst this
    exact h3 j hj hy)] at this
  exact this
theorem keeps_drew {V Z : World} (h : KeepsOthers V.drew Z) : KeepsOthers V Z := ⟨h.size, h.same⟩
theorem boxed_drew {V : World} {B : Nat} {t : TypeId} {v : Value} (h : Boxed V B t v) : Boxed V.drew B t v := h
theorem owns_drew {w : World} {B e size n : Nat} {v : Value} {xs : List Value} (h : w.ownsRow B e size v n xs) : w.drew.ownsRow B e size v n xs := h
theorem below_drew {B : Nat} {w w' : World} (h : Below B w w') : Below B w w'.drew := ⟨h.os, h.tape, h.output, h.size, h.block⟩
set_option maxHeartbeats 8000000 in
theorem leadsRound_any {g : List (List Nat)} (G : Gr g) (a : Option Addr) (c : Nat) (w : World) (h : GRow w a g) :
    Calls Tryz.prog 81 #[.agg #[.slice a g.length c]] w fun e w' => (∃ b : Bool, e = .returned (.bool b) ∧ (b = true ↔ Cyc g)) ∧ Below w.heap.size w w' := by
  have hgm := G.most
  have hol := (dfs_len G).1
  have H := hid h
  have b0 := below2 w (.cells #[.slice a g.length c] 25) (.cells #[.bool false] 4)
  have z0 : ((w.alloc (.cells #[.slice a g.length c] 25)).alloc (.cells #[.bool false] 4)).heap.size = w.heap.size + 2 := by simp
  have d0 : ((w.alloc (.cells #[.slice a g.length c] 25)).alloc (.cells #[.bool false] 4)).cell? ⟨w.heap.size, 0, none⟩ = some (.slice a g.length c) := by
    have := (Boxed.new w 25 (.slice a g.length c)).alloc (.cells #[.bool false] 4)
    exact this.cell
  have x0 : Boxed ((w.alloc (.cells #[.slice a g.length c] 25)).alloc (.cells #[.bool false] 4)) (w.heap.size + 1) 4 (.bool false) := by
    have := Boxed.new (w.alloc (.cells #[.slice a g.length c] 25)) 4 (.bool false)
    rw [World.size_alloc] at this
    exact this
  have HO := hid (iOrder_any G a c _ (LRow.below H.out b0))
  clear h
  refine (callsIn_wide (n := 10)).1 ?_
  refine callsIn_of_wp_marks Tryz.func81 rfl trivial ?_ rfl
  simp only [Tryz.ntmps81, List.size_toArray, List.length_cons, List.length_nil, Nat.reduceAdd, Nat.reduceSub, Array.replicate_succ, Array.replicate_zero, List.push_toArray, List.append_toArray, List.nil_append, List.cons_append]
  gi_wp2_with (first | (refine ⟨trivial, ?_⟩; gi_at_call 71; refine (callsIn_wide.2 HO.out).mono ?_; rintro e w1 ⟨oa, oc, rfl, hoo, hbo⟩; have d1 := cell_below d0 hbo; have d2 := cell_below d1 (below1 w1 (.cells #[.slice oa (order7 g).length oc] 35))) | (refine ⟨trivial, ?_⟩; gi_at_call 39; refine (callsIn_wide.2 (edgesIn_any _ _ _ _)).mono ?_; rintro e w' ⟨rfl, rfl⟩))
  obtain ⟨X, hX⟩ : ∃ X, ((w1.alloc (.cells #[.slice oa (order7 g).length oc] 35)).alloc (.cells #[.slice a g.length c] 25)) = X := ⟨_, rfl⟩
  have zX : X.heap.size = w1.heap.size + 2 := by rw [← hX]; simp
  have bX : Below w1.heap.size w1 X := by rw [← hX]; exact below2 _ _ _
  have z1 : w.heap.size + 2 ≤ w1.heap.size := by have := hbo.size; omega
  have BX : Below w.heap.size w X := (bstep' b0 hbo).trans (bX.mono (by omega))
  have x2 : Boxed X (w.heap.size + 1) 4 (.bool false) := boxed_below (boxed_below x0 hbo) bX
  have x3 : Boxed X w1.heap.size 35 (.slice oa (order7 g).length oc) := by rw [← hX]; exact (Boxed.new w1 35 _).alloc _
  have xg : X.cell? ⟨w1.heap.size + 1, 0, none⟩ = some (.slice a g.length c) := by
    rw [← hX]
    have := Boxed.new (w1.alloc (.cells #[.slice oa (order7 g).length oc] 35)) 25 (.slice a g.length c)
    rw [World.size_alloc] at this
    exact this.cell
  have oX : X.ownsRow (w.heap.size + 2) 3 1 (.slice oa (order7 g).length oc) (order7 g).length (ints (nats (order7 g))) := by
    have := owns_below hoo bX
    rwa [z0] at this
  rw [hX]
  have HX := hid oX
  clear hX hoo hbo bX oX HO d0 d1 d2 x0 b0
  refine range_own rfl (by omega) (gf := 78) (lb := #[.pointer (some ⟨w1.heap.size + 1, 0, none⟩)]) rfl trivial (enters_of Tryz.func78 (by kernel_rfl) rfl)
    (edges_own G a c (fun e => Lead g e.1 e.2) (edges_lead G) (order_lt G) (dfs_len G).1 _ (by omega) (w1.heap.size + 1) (fun k => k < w.heap.size ∨ k = w1.heap.size + 1) w X H.out BX (fun k hk => .inl hk) (.inr rfl) (fun k hk => by omega) xg) (fun k hk => by omega) (Below.refl _ _) (fun _ => rfl)
    (fun T pre V => (Boxed V (w.heap.size + 1) 4 (.bool false) ∧ Boxed V w1.heap.size 35 (.slice oa (order7 g).length oc) ∧ V.ownsRow (w.heap.size + 2) 3 1 (.slice oa (order7 g).length oc) (order7 g).length (ints (nats (order7 g)))) ∧ (∀ e ∈ pre, (order7 g).idxOf e.1.1 < (order7 g).idxOf e.1.2) ∧ Below w.heap.size w V ∧ T ≤ V.heap.size)
    (fun cd pre V => cd = .ret ∧ Boxed V (w.heap.size + 1) 4 (.bool true) ∧ (∃ e : { e : Nat × Nat // Lead g e.1 e.2 }, (order7 g).idxOf e.1.2 ≤ (order7 g).idxOf e.1.1) ∧ Below w.heap.size w V)
    (fun T s A B row hs hg hr => by
      obtain ⟨⟨h1, h2, h3⟩, h4, h5, h6⟩ := hs
      exact ⟨⟨h1.kept hg (fun e => by have := (hr _ e.symm).1; omega), h2.kept hg (fun e => by have := (hr _ e.symm).1; omega), one_sep (l2 := []) (Sep.calm (sep_one h3) hg (fun r e => (hr r e).2))⟩, h4, h5.grown hg h5.size (fun k e => by have := (hr _ e).1; omega), Nat.le_trans h6 hg.size⟩)
    (fun cd s A B row hs hg hr => ⟨hs.1, hs.2.1.kept hg (fun e => by have := (hr _ e.symm).1; omega), hs.2.2.1, hs.2.2.2.grown hg hs.2.2.2.size (fun k e => by have := (hr _ e).1; omega)⟩)
    (fun W' hg => ⟨⟨x2.kept hg (by simp), x3.kept hg (by simp), one_sep (l2 := []) (Sep.calm (sep_one HX.out) hg (fun r e => by cases e))⟩, by simp, BX.grown hg BX.size (fun k e => by cases e), Nat.le_refl _⟩)
    (fun x => { tmps := #[Value.agg #[Value.slice a g.length c], Value.pointer (some { block := w.heap.size, off := 0 }), Value.pointer (some { block := w.heap.size + 1, off := 0 }), Value.pointer (some { block := w1.heap.size, off := 0 }), .int .i64 (x.1.1 : Int), .int .i64 (x.1.2 : Int), Value.agg #[Value.slice a g.length c], Value.slice oa (order7 g).length oc, Value.agg #[Value.slice a g.length c], Value.func (Fn.func 78) #[] #[Value.pointer (some { block := w1.heap.size + 1, off := 0 })], .int .i64 (x.1.1 : Int), .int .i64 (x.1.2 : Int), undef, undef, undef, undef, undef, undef, undef], defers := [] }) ?assign ?body ?done ?stop
  case assign =>
    intro l x W K hK
    gi_wp2
    exact hK
  case body =>
    rintro l T pre x V hT ⟨⟨h1, h2, h3⟩, h4, h5, h6⟩ hlen
    have hu : x.1.1 ∈ order7 g := (order_come G _).2 x.2.1
    have hv : x.1.2 ∈ order7 g := by obtain ⟨hc, l', hl', hx'⟩ := x.2; exact (order_come G _).2 (.step hc hl' hx' (by omega))
    have c3 := h2.cell
    have c2 := h1.cell
    have f2 := h1.frozen
    have HI1 := hid (index_any _ oa oc (order7 g) x.1.1 V.drew (by omega) (owns_drew h3) hu)
    have HI2 := hid (index_any _ oa oc (order7 g) x.1.2 V.drew (by omega) (owns_drew h3) hv)
    have HQ := hid (And.intro h1 (And.intro h2 (And.intro h3 (And.intro h4 h5))))
    obtain ⟨iu, hiu⟩ : ∃ iu, (order7 g).idxOf x.1.1 = iu := ⟨_, rfl⟩
    obtain ⟨iv, hiv⟩ : ∃ iv, (order7 g).idxOf x.1.2 = iv := ⟨_, rfl⟩
    rw [hiu] at HI1
    rw [hiv] at HI2
    have HUV := hid (And.intro hiu hiv)
    have HLT : ¬ iv ≤ iu → Hid (∀ e ∈ pre ++ [x], (order7 g).idxOf e.1.1 < (order7 g).idxOf e.1.2) := fun hn e he => by
      rcases List.mem_append.1 he with he | he
      · exact h4 e he
      · simp at he
        subst he
        rw [hiu, hiv]
        omega
    clear h1 h2 h3 h4 h5 hu hv hiu hiv
    by_cases hge : iv ≤ iu
    · clear HLT
      gi_wp2_with fail
      refine region_round rfl (by kernel_rfl) (by kernel_rfl) ?_
      refine wpAnyIn_take (i := 1) (v := ?_) rfl rfl (by kernel_rfl) (by kernel_rfl) (by kernel_rfl) (fun _ _ _ h => h) ⟨Or.inl ⟨by rfl, ?_⟩, fun _ => rfl⟩ ?_
      rotate_left
      focus (intro w; go_simp; first | done | with_reducible rfl)
      refine wpAnyIn_take (i := 4) (v := ?_) rfl rfl (by kernel_rfl) (by kernel_rfl) (by kernel_rfl) (fun _ _ _ h => h) ⟨Or.inl ⟨by rfl, ?_⟩, fun _ => rfl⟩ ?_
      rotate_left
      focus (intro w; go_simp; first | done | with_reducible rfl)
      refine wpAnyIn_ready (rs := [0, 3]) (by kernel_rfl) (by simp) ?_
      refine AllReadyIn.cons rfl (fun K hK => ?_) ?_
      · go_simp
        refine hK _ _ ?_
        try clear hK K
        refine wpAnyIn_ready (rs := [2, 3]) (by kernel_rfl) (by simp) ?_
        refine AllReadyIn.cons rfl (fun K hK => ?_) ?_
        · go_simp
          gi_wp2_with (refine ⟨trivial, ?_⟩; gi_at_call 97; refine (callsIn_wide.2 HI1.out).mono ?_; rintro e w1q ⟨rfl, rfl⟩)
          try (refine hK _ _ ?_)
          try clear hK K
          refine wpAnyIn_ready (rs := [3]) (by kernel_rfl) (by simp) ?_
          refine AllReadyIn.cons rfl (fun K hK => ?_) AllReadyIn.nil
          go_simp
          refine hK _ _ ?_
          try clear hK K
          refine wpAnyIn_ready (rs := [5]) (by kernel_rfl) (by simp) ?_
          refine AllReadyIn.cons rfl (fun K hK => ?_) AllReadyIn.nil
          go_simp
          gi_wp2_with (refine ⟨trivial, ?_⟩; gi_at_call 97; refine (callsIn_wide.2 HI2.out).mono ?_; rintro e w2q ⟨rfl, rfl⟩)
          try (refine hK _ _ ?_)
          try clear hK K
          refine wpAnyIn_ready (rs := [6]) (by kernel_rfl) (by simp) ?_
          refine AllReadyIn.cons rfl (fun K hK => ?_) AllReadyIn.nil
          go_simp
          refine hK _ _ ?_
          try clear hK K
          refine wpAnyIn_done (by kernel_rfl) ?_ _
          gi_wp2_with fail
          exact ⟨keeps_drew (KeepsOthers.setCell _ _ _), rfl, (boxed_drew HQ.out.1).set _, ⟨x, by rw [HUV.out.1, HUV.out.2]; exact hge⟩, (below_drew HQ.out.2.2.2.2).setCell (by show w.heap.size ≤ w.heap.size + 1; omega) _⟩
        refine AllReadyIn.cons rfl (fun K hK => ?_) ?_
        · go_simp
          refine hK _ _ ?_
          try clear hK K
          refine wpAnyIn_ready (rs := [2]) (by kernel_rfl) (by simp) ?_
          refine AllReadyIn.cons rfl (fun K hK => ?_) AllReadyIn.nil
          go_simp
          gi_wp2_with (refine ⟨trivial, ?_⟩; gi_at_call 97; refine (callsIn_wide.2 HI1.out).mono ?_; rintro e w1q ⟨rfl, rfl⟩)
          try (refine hK _ _ ?_)
          try clear hK K
          refine wpAnyIn_ready (rs := [5]) (by kernel_rfl) (by simp) ?_
          refine AllReadyIn.cons rfl (fun K hK => ?_) AllReadyIn.nil
          go_simp
          gi_wp2_with (refine ⟨trivial, ?_⟩; gi_at_call 97; refine (callsIn_wide.2 HI2.out).mono ?_; rintro e w2q ⟨rfl, rfl⟩)
          try (refine hK _ _ ?_)
          try clear hK K
          refine wpAnyIn_ready (rs := [6]) (by kernel_rfl) (by simp) ?_
          refine AllReadyIn.cons rfl (fun K hK => ?_) AllReadyIn.nil
          go_simp
          refine hK _ _ ?_
          try clear hK K
          refine wpAnyIn_done (by kernel_rfl) ?_ _
          gi_wp2_with fail
          exact ⟨keeps_drew (KeepsOthers.setCell _ _ _), rfl, (boxed_drew HQ.out.1).set _, ⟨x, by rw [HUV.out.1, HUV.out.2]; exact hge⟩, (below_drew HQ.out.2.2.2.2).setCell (by show w.heap.size ≤ w.heap.size + 1; omega) _⟩
        exact AllReadyIn.nil
      refine AllReadyIn.cons rfl (fun K hK => ?_) ?_
      · go_simp
        refine hK _ _ ?_
        try clear hK K
        refine wpAnyIn_ready (rs := [0]) (by kernel_rfl) (by simp) ?_
        refine AllReadyIn.cons rfl (fun K hK => ?_) AllReadyIn.nil
        go_simp
        refine hK _ _ ?_
        try clear hK K
        refine wpAnyIn_ready (rs := [2]) (by kernel_rfl) (by simp) ?_
        refine AllReadyIn.cons rfl (fun K hK => ?_) AllReadyIn.nil
        go_simp
        gi_wp2_with (refine ⟨trivial, ?_⟩; gi_at_call 97; refine (callsIn_wide.2 HI1.out).mono ?_; rintro e w1q ⟨rfl, rfl⟩)
        try (refine hK _ _ ?_)
        try clear hK K
        refine wpAnyIn_ready (rs := [5]) (by kernel_rfl) (by simp) ?_
        refine AllReadyIn.cons rfl (fun K hK => ?_) AllReadyIn.nil
        go_simp
        gi_wp2_with (refine ⟨trivial, ?_⟩; gi_at_call 97; refine (callsIn_wide.2 HI2.out).mono ?_; rintro e w2q ⟨rfl, rfl⟩)
        try (refine hK _ _ ?_)
        try clear hK K
        refine wpAnyIn_ready (rs := [6]) (by kernel_rfl) (by simp) ?_
        refine AllReadyIn.cons rfl (fun K hK => ?_) AllReadyIn.nil
        go_simp
        refine hK _ _ ?_
        try clear hK K
        refine wpAnyIn_done (by kernel_rfl) ?_ _
        gi_wp2_with fail
        exact ⟨keeps_drew (KeepsOthers.setCell _ _ _), rfl, (boxed_drew HQ.out.1).set _, ⟨x, by rw [HUV.out.1, HUV.out.2]; exact hge⟩, (below_drew HQ.out.2.2.2.2).setCell (by show w.heap.size ≤ w.heap.size + 1; omega) _⟩
      exact AllReadyIn.nil
    · have HLT := HLT hge
      gi_wp2_with fail
      refine region_round rfl (by kernel_rfl) (by kernel_rfl) ?_
      refine wpAnyIn_take (i := 1) (v := ?_) rfl rfl (by kernel_rfl) (by kernel_rfl) (by kernel_rfl) (fun _ _ _ h => h) ⟨Or.inl ⟨by rfl, ?_⟩, fun _ => rfl⟩ ?_
      rotate_left
      focus (intro w; go_simp; first | done | with_reducible rfl)
      refine wpAnyIn_take (i := 4) (v := ?_) rfl rfl (by kernel_rfl) (by kernel_rfl) (by kernel_rfl) (fun _ _ _ h => h) ⟨Or.inl ⟨by rfl, ?_⟩, fun _ => rfl⟩ ?_
      rotate_left
      focus (intro w; go_simp; first | done | with_reducible rfl)
      refine wpAnyIn_ready (rs := [0, 3]) (by kernel_rfl) (by simp) ?_
      refine AllReadyIn.cons rfl (fun K hK => ?_) ?_
      · go_simp
        refine hK _ _ ?_
        try clear hK K
        refine wpAnyIn_ready (rs := [2, 3]) (by kernel_rfl) (by simp) ?_
        refine AllReadyIn.cons rfl (fun K hK => ?_) ?_
        · go_simp
          gi_wp2_with (refine ⟨trivial, ?_⟩; gi_at_call 97; refine (callsIn_wide.2 HI1.out).mono ?_; rintro e w1q ⟨rfl, rfl⟩)
          try (refine hK _ _ ?_)
          try clear hK K
          refine wpAnyIn_ready (rs := [3]) (by kernel_rfl) (by simp) ?_
          refine AllReadyIn.cons rfl (fun K hK => ?_) AllReadyIn.nil
          go_simp
          refine hK _ _ ?_
          try clear hK K
          refine wpAnyIn_ready (rs := [5]) (by kernel_rfl) (by simp) ?_
          refine AllReadyIn.cons rfl (fun K hK => ?_) AllReadyIn.nil
          go_simp
          gi_wp2_with (refine ⟨trivial, ?_⟩; gi_at_call 97; refine (callsIn_wide.2 HI2.out).mono ?_; rintro e w2q ⟨rfl, rfl⟩)
          try (refine hK _ _ ?_)
          try clear hK K
          refine wpAnyIn_ready (rs := [6]) (by kernel_rfl) (by simp) ?_
          refine AllReadyIn.cons rfl (fun K hK => ?_) AllReadyIn.nil
          go_simp
          refine hK _ _ ?_
          try clear hK K
          refine wpAnyIn_done (by kernel_rfl) ?_ _
          gi_wp2_with fail
          exact ⟨keeps_drew (KeepsOthers.refl _), ⟨bdr (Below.refl _ _), fun _ _ => rfl⟩, ⟨boxed_drew HQ.out.1, boxed_drew HQ.out.2.1, owns_drew HQ.out.2.2.1⟩, HLT.out, below_drew HQ.out.2.2.2.2, h6⟩
        refine AllReadyIn.cons rfl (fun K hK => ?_) ?_
        · go_simp
          refine hK _ _ ?_
          try clear hK K
          refine wpAnyIn_ready (rs := [2]) (by kernel_rfl) (by simp) ?_
          refine AllReadyIn.cons rfl (fun K hK => ?_) AllReadyIn.nil
          go_simp
          gi_wp2_with (refine ⟨trivial, ?_⟩; gi_at_call 97; refine (callsIn_wide.2 HI1.out).mono ?_; rintro e w1q ⟨rfl, rfl⟩)
          try (refine hK _ _ ?_)
          try clear hK K
          refine wpAnyIn_ready (rs := [5]) (by kernel_rfl) (by simp) ?_
          refine AllReadyIn.cons rfl (fun K hK => ?_) AllReadyIn.nil
          go_simp
          gi_wp2_with (refine ⟨trivial, ?_⟩; gi_at_call 97; refine (callsIn_wide.2 HI2.out).mono ?_; rintro e w2q ⟨rfl, rfl⟩)
          try (refine hK _ _ ?_)
          try clear hK K
          refine wpAnyIn_ready (rs := [6]) (by kernel_rfl) (by simp) ?_
          refine AllReadyIn.cons rfl (fun K hK => ?_) AllReadyIn.nil
          go_simp
          refine hK _ _ ?_
          try clear hK K
          refine wpAnyIn_done (by kernel_rfl) ?_ _
          gi_wp2_with fail
          exact ⟨keeps_drew (KeepsOthers.refl _), ⟨bdr (Below.refl _ _), fun _ _ => rfl⟩, ⟨boxed_drew HQ.out.1, boxed_drew HQ.out.2.1, owns_drew HQ.out.2.2.1⟩, HLT.out, below_drew HQ.out.2.2.2.2, h6⟩
        exact AllReadyIn.nil
      refine AllReadyIn.cons rfl (fun K hK => ?_) ?_
      · go_simp
        refine hK _ _ ?_
        try clear hK K
        refine wpAnyIn_ready (rs := [0]) (by kernel_rfl) (by simp) ?_
        refine AllReadyIn.cons rfl (fun K hK => ?_) AllReadyIn.nil
        go_simp
        refine hK _ _ ?_
        try clear hK K
        refine wpAnyIn_ready (rs := [2]) (by kernel_rfl) (by simp) ?_
        refine AllReadyIn.cons rfl (fun K hK => ?_) AllReadyIn.nil
        go_simp
        gi_wp2_with (refine ⟨trivial, ?_⟩; gi_at_call 97; refine (callsIn_wide.2 HI1.out).mono ?_; rintro e w1q ⟨rfl, rfl⟩)
        try (refine hK _ _ ?_)
        try clear hK K
        refine wpAnyIn_ready (rs := [5]) (by kernel_rfl) (by simp) ?_
        refine AllReadyIn.cons rfl (fun K hK => ?_) AllReadyIn.nil
        go_simp
        gi_wp2_with (refine ⟨trivial, ?_⟩; gi_at_call 97; refine (callsIn_wide.2 HI2.out).mono ?_; rintro e w2q ⟨rfl, rfl⟩)
        try (refine hK _ _ ?_)
        try clear hK K
        refine wpAnyIn_ready (rs := [6]) (by kernel_rfl) (by simp) ?_
        refine AllReadyIn.cons rfl (fun K hK => ?_) AllReadyIn.nil
        go_simp
        refine hK _ _ ?_
        try clear hK K
        refine wpAnyIn_done (by kernel_rfl) ?_ _
        gi_wp2_with fail
        exact ⟨keeps_drew (KeepsOthers.refl _), ⟨bdr (Below.refl _ _), fun _ _ => rfl⟩, ⟨boxed_drew HQ.out.1, boxed_drew HQ.out.2.1, owns_drew HQ.out.2.2.1⟩, HLT.out, below_drew HQ.out.2.2.2.2, h6⟩
      exact AllReadyIn.nil
  case done =>
    rintro Dd T xs V hDd hS ⟨⟨h1, h2, h3⟩, h4, h5, h6⟩ hK
    have c2 := h1.cell
    have f2 := h1.frozen
    have hnc : ¬ Cyc g := fun hc => by
      obtain ⟨u, v, hl, hle⟩ := edge_of_cyc G hc
      have hm := (edges_all G u v).2 hl
      rw [← hS] at hm
      obtain ⟨e, he, e2⟩ := List.mem_map.1 hm
      have := h4 e he
      rw [e2] at this
      simp only [] at this
      omega
    have hK' : (V.setCell ⟨w.heap.size + 1, 0, none⟩ (.bool false)).heap[Dd]? = some (.deferred (some [])) := (KeepsOthers.setCell _ _ _).same Dd _ hK rfl
    have q4 := (h1.set (.bool false)).cell
    have qB := h5.setCell (p := ⟨w.heap.size + 1, 0, none⟩) (by show w.heap.size ≤ w.heap.size + 1; omega) (.bool false)
    gi_wp2
    refine ⟨by simp, .inl ⟨_, _, rfl, run_takeDeferred hK', ?_⟩⟩
    have q5 := cell_kept q4 (grownBy_putObj' _ Dd (.deferred none)) (fun r e => by cases e; exact ⟨_, hK', rfl⟩)
    exact ⟨.bool false, by simp [results, Tryz.results81, go_sem, q5], ⟨false, rfl, by simp [hnc]⟩, qB.trans (belowK_b (w := w) (Nat.le_refl _) _ Dd _ _ (by have := BX.size; omega) hK' rfl rfl)⟩
  case stop =>
    rintro Dd cd pre V hDd hpre ⟨rfl, hb, ⟨e, he⟩, hB⟩ hK
    have hcy : Cyc g := cyc_of_edge G e.2 he
    have q4 := hb.cell
    gi_wp2
    refine ⟨by simp, .inl ⟨_, _, rfl, run_takeDeferred hK, ?_⟩⟩
    have q5 := cell_kept q4 (grownBy_putObj' _ Dd (.deferred none)) (fun r e => by cases e; exact ⟨_, hK, rfl⟩)
    exact ⟨.bool true, by simp [results, Tryz.results81, go_sem, q5], ⟨true, rfl, by simp [hcy]⟩, hB.trans (belowK_b (w := w) (Nat.le_refl _) _ Dd _ _ (by have := BX.size; omega) hK rfl rfl)⟩
end Go.Proofs.YtiadmmnnbnamjaaGreat
