/- The only node that leads to another one. -/
import Derived.Test.YthcenlplfcbfjaaShr8
import Derived.Test.YthcenlplfcbfjaaJ2
namespace Go.Proofs.Ythcenlplfcbfjaa
open Go Go.RowKit Go.Shelf
attribute [local go_sem] Oper.semAt_some
set_option linter.unusedVariables false
set_option linter.unusedSimpArgs false
set_option maxRecDepth 100000

/-- the one of a list that has one alone -/
def onlyP : List Nat → Int
  | [p] => p
  | _ => -1
theorem below4 (w : World) (o1 o2 o3 o4 : Obj) : Below w.heap.size w ((((w.alloc o1).alloc o2).alloc o3).alloc o4) := (below3 w o1 o2 o3).alloc (by simp; omega) _
/-- those that lead to a node -/
def leadsTo (N : List (List Nat)) (k : Nat) (l : List Nat) : List Nat := l.filter fun a => decide (k ∈ N.getD a [])
theorem leadsTo_yes {N : List (List Nat)} {k a : Nat} {l r : List Nat} (hr : N[a]? = some r) (hk : k ∈ r) : leadsTo N k (l ++ [a]) = leadsTo N k l ++ [a] := by
  unfold leadsTo
  rw [List.filter_append, List.filter_cons, if_pos (decide_eq_true (by rw [List.getD_eq_getElem?_getD, hr]; exact hk))]
  rfl
theorem leadsTo_no {N : List (List Nat)} {k a : Nat} {l r : List Nat} (hr : N[a]? = some r) (hk : k ∉ r) : leadsTo N k (l ++ [a]) = leadsTo N k l := by
  unfold leadsTo
  rw [List.filter_append, List.filter_cons, if_neg (by rw [List.getD_eq_getElem?_getD, hr]; simpa using hk)]
  simp
theorem leadsTo_len {N : List (List Nat)} {k : Nat} {l m : List Nat} (h : l <+: m) : (leadsTo N k l).length ≤ (leadsTo N k m).length := by
  obtain ⟨t, rfl⟩ := h
  unfold leadsTo
  rw [List.filter_append, List.length_append]
  omega
/-- what is told of those that lead to a node, so far -/
def LeadIs (L : List Nat) (u : Int) : Prop := (L = [] ∧ u = -1) ∨ ∃ p : Nat, L = [p] ∧ u = p
theorem LeadIs.only {L : List Nat} {u : Int} (h : LeadIs L u) : onlyP L = u := by
  rcases h with ⟨rfl, rfl⟩ | ⟨p, rfl, rfl⟩ <;> rfl
theorem onlyP_many {L : List Nat} (h : 2 ≤ L.length) : onlyP L = -1 := by
  match L, h with
  | _ :: _ :: _, _ => rfl
theorem Shr.row {w : World} {B tb pb n c : Nat} {nv : Value} {ns : List Nat} {ys : List LV} {N : List (List Nat)} (h : Shr w B tb pb n c nv ns ys N) {a : Nat} {r : List Nat} {sv : Value} (hy : ys[a]? = some ⟨nats r, sv⟩) : w.cell? ⟨pb, a, none⟩ = some sv ∧ ∃ sa sc, sv = .slice sa r.length sc ∧ Row w sa (nats r) := by
  have hm := List.mem_of_getElem? hy
  have ho := Sep.get h.sep (x := rowL ⟨nats r, sv⟩) (by unfold rowsShr; simp; exact .inr (.inr (.inr ⟨_, hm, rfl⟩)))
  refine ⟨Sep.cell h.sep (x := ⟨54, 1, .slice (some ⟨pb, 0, none⟩) n c, n, vals ys⟩) (by simp [rowsShr]) rfl (by simp [vals, hy]), ?_⟩
  obtain ⟨sa, sc, e⟩ := slice_of_owned ho
  simp only [rowL, nats_length] at e ho
  subst e
  exact ⟨sa, sc, rfl, own_row (c := sc) (by rw [nats_length]; exact ho)⟩
set_option maxHeartbeats 4000000 in
theorem onlyLeader_any (B tb pb n c : Nat) (nv : Value) (ns : List Nat) (ys : List LV) (N : List (List Nat)) (k : Nat) (w : World) (hn : n ≤ 12) (hB : B ≤ w.heap.size) (h : Shr w B tb pb n c nv ns ys N) :
    Calls Try.prog 83 #[.pointer (some ⟨tb, 0, none⟩), .int .i64 (k : Int)] w fun e w' => e = .returned (.int .i64 (onlyP (leadsTo N k ns))) ∧ Below w.heap.size w w' := by
  obtain ⟨c0, c1, ⟨na, nc, rfl, hrow⟩, ht, hp⟩ := h.cells
  have hnl := h.nfew
  have H := hid h
  have HRW := hid hrow
  clear h hrow
  have b4 := below4 w (.cells #[.pointer (some ⟨tb, 0, none⟩)] 100) (.cells #[.int .i64 (k : Int)] 3) (.cells #[.int .i64 0] 3) (.cells #[.int .i64 (-1)] 3)
  have d0 := cell_below c0 b4
  refine (callsIn_wide (n := 8)).1 ?_
  refine callsIn_of_wp_marks Try.func83 rfl trivial ?_ rfl
  simp only [Try.ntmps83, List.size_toArray, List.length_cons, List.length_nil, Nat.reduceAdd, Nat.reduceSub, Array.replicate_succ, Array.replicate_zero, List.push_toArray, List.append_toArray, List.nil_append, List.cons_append]
  gi_wp2_with (refine ⟨trivial, ?_⟩; gi_at_call 67; refine (callsIn_wide.2 (all_any _ _ _ _)).mono ?_; rintro e w' ⟨rfl, rfl⟩)
  have x0 := ((((Boxed.new w 100 (.pointer (some ⟨tb, 0, none⟩))).alloc (.cells #[.int .i64 (k : Int)] 3)).alloc (.cells #[.int .i64 0] 3)).alloc (.cells #[.int .i64 (-1)] 3))
  have x1 := (((Boxed.new (w.alloc (.cells #[.pointer (some ⟨tb, 0, none⟩)] 100)) 3 (.int .i64 (k : Int))).alloc (.cells #[.int .i64 0] 3)).alloc (.cells #[.int .i64 (-1)] 3))
  have x2 := ((Boxed.new ((w.alloc (.cells #[.pointer (some ⟨tb, 0, none⟩)] 100)).alloc (.cells #[.int .i64 (k : Int)] 3)) 3 (.int .i64 0)).alloc (.cells #[.int .i64 (-1)] 3))
  have x3 := (Boxed.new (((w.alloc (.cells #[.pointer (some ⟨tb, 0, none⟩)] 100)).alloc (.cells #[.int .i64 (k : Int)] 3)).alloc (.cells #[.int .i64 0] 3)) 3 (.int .i64 (-1)))
  simp only [World.size_alloc] at x1 x2 x3
  obtain ⟨A4, hA4⟩ : ∃ A4, ((((w.alloc (.cells #[.pointer (some ⟨tb, 0, none⟩)] 100)).alloc (.cells #[.int .i64 (k : Int)] 3)).alloc (.cells #[.int .i64 0] 3)).alloc (.cells #[.int .i64 (-1)] 3)) = A4 := ⟨_, rfl⟩
  have zA : A4.heap.size = w.heap.size + 4 := by rw [← hA4]; simp
  rw [hA4] at b4 x0 x1 x2 x3 ⊢
  clear hA4 d0
  obtain ⟨W0, hW0⟩ : ∃ W0, ((A4.alloc (Obj.cells #[Value.slice na ns.length nc] 54)).alloc (Obj.cells #[Value.slice na ns.length nc] 42)) = W0 := ⟨_, rfl⟩
  have zW : W0.heap.size = w.heap.size + 6 := by rw [← hW0]; simp [zA]
  have bA : Below A4.heap.size A4 W0 := by rw [← hW0]; exact below2 _ _ _
  have bW : Below w.heap.size w W0 := bstep' b4 bA
  have xg : W0.cell? ⟨w.heap.size + 1 + 1 + 1 + 1 + 1, 0, none⟩ = some (.slice na ns.length nc) := by
    rw [← hW0]
    have := Boxed.new (A4.alloc (Obj.cells #[Value.slice na ns.length nc] 54)) 42 (.slice na ns.length nc)
    simp only [World.size_alloc, zA] at this
    exact this.cell
  replace x0 := boxed_below x0 bA
  replace x1 := boxed_below x1 bA
  replace x2 := boxed_below x2 bA
  replace x3 := boxed_below x3 bA
  rw [hW0]
  clear hW0 bA b4
  refine range_own2 rfl (by omega) (gf := 109) (lb := #[.pointer (some ⟨w.heap.size + 1 + 1 + 1 + 1 + 1, 0, none⟩)]) rfl trivial (enters_of Try.func109 (by kernel_rfl) rfl)
    (values_own2 (fun x : Nat => (x : Int)) _ (by omega) (w.heap.size + 1 + 1 + 1 + 1 + 1) na nc ns (by omega) (fun k => k < w.heap.size ∧ ∃ off, na = some ⟨k, off, none⟩) (fun b off e => ⟨by have := Sep.size H.out.sep (x := ⟨3, 1, .slice na ns.length nc, ns.length, ints (nats ns)⟩) (by simp [rowsShr]) (g := b) (by rw [e]; rfl); exact this.2, off, e⟩) W0 (HRW.out.below bW) (by omega) xg) (fun k hk => by have := hk.1; omega) (Below.refl _ _) (fun _ => rfl)
    (fun T pre V => (∃ u : Int, Boxed V w.heap.size 100 (.pointer (some ⟨tb, 0, none⟩)) ∧ Boxed V (w.heap.size + 1) 3 (.int .i64 (k : Int)) ∧ Boxed V (w.heap.size + 1 + 1) 3 (.int .i64 0) ∧ Boxed V (w.heap.size + 1 + 1 + 1) 3 (.int .i64 u) ∧ LeadIs (leadsTo N k pre) u) ∧ Below w.heap.size w V ∧ T ≤ V.heap.size ∧ W0.heap.size ≤ T)
    (fun cd pre V => cd = .ret ∧ Boxed V (w.heap.size + 1 + 1) 3 (.int .i64 (-1)) ∧ 2 ≤ (leadsTo N k pre).length ∧ Below w.heap.size w V)
    (fun T s A A' row hs hg hr => by
      obtain ⟨⟨u, h1, h2, h3, h4, h5⟩, h6, h7, h8⟩ := hs
      exact ⟨⟨u, h1.kept hg (fun e => by have := (hr _ e.symm).1; omega), h2.kept hg (fun e => by have := (hr _ e.symm).1; omega), h3.kept hg (fun e => by have := (hr _ e.symm).1; omega), h4.kept hg (fun e => by have := (hr _ e.symm).1; omega), h5⟩, h6.grown hg h6.size (fun k e => by have := (hr _ e).1; omega), Nat.le_trans h7 hg.size, h8⟩)
    (fun cd s A A' row hs hg hr => ⟨hs.1, hs.2.1.kept hg (fun e => by have := (hr _ e.symm).1; omega), hs.2.2.1, hs.2.2.2.grown hg hs.2.2.2.size (fun k e => by have := (hr _ e).1; omega)⟩)
    (fun W' hg => ⟨⟨-1, x0.kept hg (by simp), x1.kept hg (by simp), x2.kept hg (by simp), x3.kept hg (by simp), .inl ⟨rfl, rfl⟩⟩, bW.grown hg bW.size (fun k e => by cases e), Nat.le_refl _, hg.size⟩)
    (fun x => { tmps := #[Value.pointer (some { block := tb, off := 0 }), Value.int IntKind.i64 ↑k, Value.pointer (some { block := w.heap.size, off := 0 }), Value.pointer (some { block := w.heap.size + 1, off := 0 }), Value.pointer (some { block := w.heap.size + 1 + 1, off := 0 }), Value.pointer (some { block := w.heap.size + 1 + 1 + 1, off := 0 }), .int .i64 (x : Int), Value.pointer (some { block := tb, off := 0 }), Value.pointer (some { block := tb, off := 0 }), Value.pointer (some { block := tb, off := 0 }), Value.agg #[Value.slice na ns.length nc], Value.func (Fn.func 109) #[] #[Value.pointer (some { block := w.heap.size + 1 + 1 + 1 + 1 + 1, off := 0 })], .int .i64 (x : Int), undef, undef, undef, undef, undef, undef, undef, undef, undef, undef, undef, undef, undef, undef], defers := [] }) ?assign ?body ?done ?stop
  case assign =>
    intro l x W K hK
    gi_wp2
    exact hK
  case body =>
    rintro l T pre x V hT ⟨⟨u, h1, h2, h3, h4, h5⟩, h6, h7, h8⟩ hlen hSp
    have HV := hid (H.out.below h6)
    have hxn : x < n := H.out.lt x (hSp.subset (by simp))
    obtain ⟨r, sv, hr, hsv⟩ := H.out.at hxn
    have hrf := H.out.isN.few hr
    obtain ⟨e0, sa, sc, rfl, er⟩ := HV.out.row hsv
    obtain ⟨_, e1, _, _, _⟩ := HV.out.cells
    have q0 := h1.cell
    have q1 := h2.cell
    have hhs := has_any sa sc r k V.drew (by omega) (Row.below er (bdr (Below.refl _ _))) (H.out.isN.2 x r hr).1
    have HQ := hid (And.intro h1 (And.intro h2 (And.intro h3 (And.intro h4 h6))))
    have KEEP : Hid (∀ Z, Below V.heap.size V Z → KeepsOthers V Z ∧ Stay (fun k => k < w.heap.size ∧ ∃ off, na = some ⟨k, off, none⟩) W0.heap.size T V Z) := fun Z hZ => ⟨keeps_below hZ, ⟨hZ.mono (Nat.zero_le _), fun k hk => hZ.block k (by have := h6.size; omega)⟩⟩
    clear h1 h2 h3 h4 er
    have hV6 := h6.size
    by_cases hkr : k ∈ r
    · rw [decide_eq_true hkr] at hhs
      have HHS := hid hhs
      have HL := hid (leadsTo_yes (l := pre) hr hkr)
      clear hhs hkr
      rcases h5 with ⟨hl0, rfl⟩ | ⟨p, hl1, rfl⟩
      · have HL0 := hid hl0
        clear hl0 hr hsv
        gi_wp2_with fail
        refine region_round rfl (by kernel_rfl) (by kernel_rfl) ?_
        refine wpAnyIn_take (i := 4) (v := ?_) rfl rfl (by kernel_rfl) (by kernel_rfl) (by kernel_rfl) (fun _ _ _ h => h) ⟨Or.inl ⟨by rfl, ?_⟩, fun _ => rfl⟩ ?_
        rotate_left
        focus (intro w; go_simp; first | done | with_reducible rfl)
        refine wpAnyIn_ready (rs := [0, 7]) (by kernel_rfl) (by simp) ?_
        refine AllReadyIn.cons rfl (fun K hK => ?_) ?_
        · go_simp
          refine hK _ _ ?_
          try clear hK K
          refine wpAnyIn_ready (rs := [1, 7]) (by kernel_rfl) (by simp) ?_
          refine AllReadyIn.cons rfl (fun K hK => ?_) ?_
          · go_simp
            refine hK _ _ ?_
            try clear hK K
            refine wpAnyIn_take (i := 2) (v := ?_) rfl rfl (by kernel_rfl) (by kernel_rfl) (by kernel_rfl) (fun _ _ _ h => h) ⟨Or.inl ⟨by rfl, ?_⟩, fun _ => rfl⟩ ?_
            rotate_left
            focus (intro w; go_simp; first | done | with_reducible rfl)
            refine wpAnyIn_ready (rs := [3, 7]) (by kernel_rfl) (by simp) ?_
            refine AllReadyIn.cons rfl (fun K hK => ?_) ?_
            · go_simp
              refine hK _ _ ?_
              try clear hK K
              refine wpAnyIn_ready (rs := [5, 7]) (by kernel_rfl) (by simp) ?_
              refine AllReadyIn.cons rfl (fun K hK => ?_) ?_
              · go_simp
                refine hK _ _ ?_
                try clear hK K
                refine wpAnyIn_ready (rs := [6, 7]) (by kernel_rfl) (by simp) ?_
                refine AllReadyIn.cons rfl (fun K hK => ?_) ?_
                · go_simp
                  refine hK _ _ ?_
                  try clear hK K
                  refine wpAnyIn_ready (rs := [7]) (by kernel_rfl) (by simp) ?_
                  refine AllReadyIn.cons rfl (fun K hK => ?_) AllReadyIn.nil
                  go_simp
                  refine hK _ _ ?_
                  try clear hK K
                  refine wpAnyIn_ready (rs := [8]) (by kernel_rfl) (by simp) ?_
                  refine AllReadyIn.cons rfl (fun K hK => ?_) AllReadyIn.nil
                  go_simp
                  gi_wp2_with (refine ⟨trivial, ?_⟩; gi_at_call 58; refine (callsIn_wide.2 HHS.out).mono ?_; rintro e Z ⟨rfl, hZ0⟩; have hZ := below_of_drew hZ0; have z5 := (boxed_below HQ.out.2.2.2.1 hZ).cell; have z4 := (boxed_below HQ.out.2.2.1 hZ).cell; have y5 := (boxed_below HQ.out.2.2.2.1 hZ).frozen; have y4 := (boxed_below HQ.out.2.2.1 hZ).frozen)
                  try (refine hK _ _ ?_)
                  try clear hK K
                  refine wpAnyIn_take (i := 9) (v := ?_) rfl rfl (by kernel_rfl) (by kernel_rfl) (by kernel_rfl) (fun _ _ _ h => h) ⟨Or.inl ⟨by rfl, ?_⟩, fun _ => rfl⟩ ?_
                  rotate_left
                  focus (intro w; go_simp; first | done | with_reducible rfl)
                  refine wpAnyIn_done (by kernel_rfl) ?_ _
                  gi_wp2_with fail
                  exact ⟨(KEEP.out Z hZ).1.trans (KeepsOthers.setCell _ _ _), ⟨(KEEP.out Z hZ).2.1.setCell (Nat.zero_le _) _, fun j hj => by rw [Below.heap_setCell _ _ _ _ (show j ≠ w.heap.size + 1 + 1 + 1 by omega)]; exact (KEEP.out Z hZ).2.2 j hj⟩, ⟨(x : Int), (boxed_below HQ.out.1 hZ).other (by omega) _, (boxed_below HQ.out.2.1 hZ).other (by omega) _, (boxed_below HQ.out.2.2.1 hZ).other (by omega) _, (boxed_below HQ.out.2.2.2.1 hZ).set _, .inr ⟨x, by rw [HL.out, HL0.out]; rfl, rfl⟩⟩, (HQ.out.2.2.2.2.trans (hZ.mono hV6)).setCell (by show w.heap.size ≤ w.heap.size + 1 + 1 + 1; omega) _, Nat.le_trans h7 (by simp [World.setCell]; exact hZ.size), h8⟩
                refine AllReadyIn.cons rfl (fun K hK => ?_) ?_
                · go_simp
                  refine hK _ _ ?_
                  try clear hK K
                  refine wpAnyIn_ready (rs := [6]) (by kernel_rfl) (by simp) ?_
                  refine AllReadyIn.cons rfl (fun K hK => ?_) AllReadyIn.nil
                  go_simp
                  refine hK _ _ ?_
                  try clear hK K
                  refine wpAnyIn_ready (rs := [8]) (by kernel_rfl) (by simp) ?_
                  refine AllReadyIn.cons rfl (fun K hK => ?_) AllReadyIn.nil
                  go_simp
                  gi_wp2_with (refine ⟨trivial, ?_⟩; gi_at_call 58; refine (callsIn_wide.2 HHS.out).mono ?_; rintro e Z ⟨rfl, hZ0⟩; have hZ := below_of_drew hZ0; have z5 := (boxed_below HQ.out.2.2.2.1 hZ).cell; have z4 := (boxed_below HQ.out.2.2.1 hZ).cell; have y5 := (boxed_below HQ.out.2.2.2.1 hZ).frozen; have y4 := (boxed_below HQ.out.2.2.1 hZ).frozen)
                  try (refine hK _ _ ?_)
                  try clear hK K
                  refine wpAnyIn_take (i := 9) (v := ?_) rfl rfl (by kernel_rfl) (by kernel_rfl) (by kernel_rfl) (fun _ _ _ h => h) ⟨Or.inl ⟨by rfl, ?_⟩, fun _ => rfl⟩ ?_
                  rotate_left
                  focus (intro w; go_simp; first | done | with_reducible rfl)
                  refine wpAnyIn_done (by kernel_rfl) ?_ _
                  gi_wp2_with fail
                  exact ⟨(KEEP.out Z hZ).1.trans (KeepsOthers.setCell _ _ _), ⟨(KEEP.out Z hZ).2.1.setCell (Nat.zero_le _) _, fun j hj => by rw [Below.heap_setCell _ _ _ _ (show j ≠ w.heap.size + 1 + 1 + 1 by omega)]; exact (KEEP.out Z hZ).2.2 j hj⟩, ⟨(x : Int), (boxed_below HQ.out.1 hZ).other (by omega) _, (boxed_below HQ.out.2.1 hZ).other (by omega) _, (boxed_below HQ.out.2.2.1 hZ).other (by omega) _, (boxed_below HQ.out.2.2.2.1 hZ).set _, .inr ⟨x, by rw [HL.out, HL0.out]; rfl, rfl⟩⟩, (HQ.out.2.2.2.2.trans (hZ.mono hV6)).setCell (by show w.heap.size ≤ w.heap.size + 1 + 1 + 1; omega) _, Nat.le_trans h7 (by simp [World.setCell]; exact hZ.size), h8⟩
                exact AllReadyIn.nil
              refine AllReadyIn.cons rfl (fun K hK => ?_) ?_
              · go_simp
                refine hK _ _ ?_
                try clear hK K
                refine wpAnyIn_ready (rs := [5]) (by kernel_rfl) (by simp) ?_
                refine AllReadyIn.cons rfl (fun K hK => ?_) AllReadyIn.nil
                go_simp
                refine hK _ _ ?_
                try clear hK K
                refine wpAnyIn_ready (rs := [6]) (by kernel_rfl) (by simp) ?_
                refine AllReadyIn.cons rfl (fun K hK => ?_) AllReadyIn.nil
                go_simp
                refine hK _ _ ?_
                try clear hK K
                refine wpAnyIn_ready (rs := [8]) (by kernel_rfl) (by simp) ?_
                refine AllReadyIn.cons rfl (fun K hK => ?_) AllReadyIn.nil
                go_simp
                gi_wp2_with (refine ⟨trivial, ?_⟩; gi_at_call 58; refine (callsIn_wide.2 HHS.out).mono ?_; rintro e Z ⟨rfl, hZ0⟩; have hZ := below_of_drew hZ0; have z5 := (boxed_below HQ.out.2.2.2.1 hZ).cell; have z4 := (boxed_below HQ.out.2.2.1 hZ).cell; have y5 := (boxed_below HQ.out.2.2.2.1 hZ).frozen; have y4 := (boxed_below HQ.out.2.2.1 hZ).frozen)
                try (refine hK _ _ ?_)
                try clear hK K
                refine wpAnyIn_take (i := 9) (v := ?_) rfl rfl (by kernel_rfl) (by kernel_rfl) (by kernel_rfl) (fun _ _ _ h => h) ⟨Or.inl ⟨by rfl, ?_⟩, fun _ => rfl⟩ ?_
                rotate_left
                focus (intro w; go_simp; first | done | with_reducible rfl)
                refine wpAnyIn_done (by kernel_rfl) ?_ _
                gi_wp2_with fail
                exact ⟨(KEEP.out Z hZ).1.trans (KeepsOthers.setCell _ _ _), ⟨(KEEP.out Z hZ).2.1.setCell (Nat.zero_le _) _, fun j hj => by rw [Below.heap_setCell _ _ _ _ (show j ≠ w.heap.size + 1 + 1 + 1 by omega)]; exact (KEEP.out Z hZ).2.2 j hj⟩, ⟨(x : Int), (boxed_below HQ.out.1 hZ).other (by omega) _, (boxed_below HQ.out.2.1 hZ).other (by omega) _, (boxed_below HQ.out.2.2.1 hZ).other (by omega) _, (boxed_below HQ.out.2.2.2.1 hZ).set _, .inr ⟨x, by rw [HL.out, HL0.out]; rfl, rfl⟩⟩, (HQ.out.2.2.2.2.trans (hZ.mono hV6)).setCell (by show w.heap.size ≤ w.heap.size + 1 + 1 + 1; omega) _, Nat.le_trans h7 (by simp [World.setCell]; exact hZ.size), h8⟩
              exact AllReadyIn.nil
            refine AllReadyIn.cons rfl (fun K hK => ?_) ?_
            · go_simp
              refine hK _ _ ?_
              try clear hK K
              refine wpAnyIn_ready (rs := [3]) (by kernel_rfl) (by simp) ?_
              refine AllReadyIn.cons rfl (fun K hK => ?_) AllReadyIn.nil
              go_simp
              refine hK _ _ ?_
              try clear hK K
              refine wpAnyIn_ready (rs := [5]) (by kernel_rfl) (by simp) ?_
              refine AllReadyIn.cons rfl (fun K hK => ?_) AllReadyIn.nil
              go_simp
              refine hK _ _ ?_
              try clear hK K
              refine wpAnyIn_ready (rs := [6]) (by kernel_rfl) (by simp) ?_
              refine AllReadyIn.cons rfl (fun K hK => ?_) AllReadyIn.nil
              go_simp
              refine hK _ _ ?_
              try clear hK K
              refine wpAnyIn_ready (rs := [8]) (by kernel_rfl) (by simp) ?_
              refine AllReadyIn.cons rfl (fun K hK => ?_) AllReadyIn.nil
              go_simp
              gi_wp2_with (refine ⟨trivial, ?_⟩; gi_at_call 58; refine (callsIn_wide.2 HHS.out).mono ?_; rintro e Z ⟨rfl, hZ0⟩; have hZ := below_of_drew hZ0; have z5 := (boxed_below HQ.out.2.2.2.1 hZ).cell; have z4 := (boxed_below HQ.out.2.2.1 hZ).cell; have y5 := (boxed_below HQ.out.2.2.2.1 hZ).frozen; have y4 := (boxed_below HQ.out.2.2.1 hZ).frozen)
              try (refine hK _ _ ?_)
              try clear hK K
              refine wpAnyIn_take (i := 9) (v := ?_) rfl rfl (by kernel_rfl) (by kernel_rfl) (by kernel_rfl) (fun _ _ _ h => h) ⟨Or.inl ⟨by rfl, ?_⟩, fun _ => rfl⟩ ?_
              rotate_left
              focus (intro w; go_simp; first | done | with_reducible rfl)
              refine wpAnyIn_done (by kernel_rfl) ?_ _
              gi_wp2_with fail
              exact ⟨(KEEP.out Z hZ).1.trans (KeepsOthers.setCell _ _ _), ⟨(KEEP.out Z hZ).2.1.setCell (Nat.zero_le _) _, fun j hj => by rw [Below.heap_setCell _ _ _ _ (show j ≠ w.heap.size + 1 + 1 + 1 by omega)]; exact (KEEP.out Z hZ).2.2 j hj⟩, ⟨(x : Int), (boxed_below HQ.out.1 hZ).other (by omega) _, (boxed_below HQ.out.2.1 hZ).other (by omega) _, (boxed_below HQ.out.2.2.1 hZ).other (by omega) _, (boxed_below HQ.out.2.2.2.1 hZ).set _, .inr ⟨x, by rw [HL.out, HL0.out]; rfl, rfl⟩⟩, (HQ.out.2.2.2.2.trans (hZ.mono hV6)).setCell (by show w.heap.size ≤ w.heap.size + 1 + 1 + 1; omega) _, Nat.le_trans h7 (by simp [World.setCell]; exact hZ.size), h8⟩
            exact AllReadyIn.nil
          refine AllReadyIn.cons rfl (fun K hK => ?_) ?_
          · go_simp
            refine hK _ _ ?_
            try clear hK K
            refine wpAnyIn_ready (rs := [1]) (by kernel_rfl) (by simp) ?_
            refine AllReadyIn.cons rfl (fun K hK => ?_) AllReadyIn.nil
            go_simp
            refine hK _ _ ?_
            try clear hK K
            refine wpAnyIn_take (i := 2) (v := ?_) rfl rfl (by kernel_rfl) (by kernel_rfl) (by kernel_rfl) (fun _ _ _ h => h) ⟨Or.inl ⟨by rfl, ?_⟩, fun _ => rfl⟩ ?_
            rotate_left
            focus (intro w; go_simp; first | done | with_reducible rfl)
            refine wpAnyIn_ready (rs := [3]) (by kernel_rfl) (by simp) ?_
            refine AllReadyIn.cons rfl (fun K hK => ?_) AllReadyIn.nil
            go_simp
            refine hK _ _ ?_
            try clear hK K
            refine wpAnyIn_ready (rs := [5]) (by kernel_rfl) (by simp) ?_
            refine AllReadyIn.cons rfl (fun K hK => ?_) AllReadyIn.nil
            go_simp
            refine hK _ _ ?_
            try clear hK K
            refine wpAnyIn_ready (rs := [6]) (by kernel_rfl) (by simp) ?_
            refine AllReadyIn.cons rfl (fun K hK => ?_) AllReadyIn.nil
            go_simp
            refine hK _ _ ?_
            try clear hK K
            refine wpAnyIn_ready (rs := [8]) (by kernel_rfl) (by simp) ?_
            refine AllReadyIn.cons rfl (fun K hK => ?_) AllReadyIn.nil
            go_simp
            gi_wp2_with (refine ⟨trivial, ?_⟩; gi_at_call 58; refine (callsIn_wide.2 HHS.out).mono ?_; rintro e Z ⟨rfl, hZ0⟩; have hZ := below_of_drew hZ0; have z5 := (boxed_below HQ.out.2.2.2.1 hZ).cell; have z4 := (boxed_below HQ.out.2.2.1 hZ).cell; have y5 := (boxed_below HQ.out.2.2.2.1 hZ).frozen; have y4 := (boxed_below HQ.out.2.2.1 hZ).frozen)
            try (refine hK _ _ ?_)
            try clear hK K
            refine wpAnyIn_take (i := 9) (v := ?_) rfl rfl (by kernel_rfl) (by kernel_rfl) (by kernel_rfl) (fun _ _ _ h => h) ⟨Or.inl ⟨by rfl, ?_⟩, fun _ => rfl⟩ ?_
            rotate_left
            focus (intro w; go_simp; first | done | with_reducible rfl)
            refine wpAnyIn_done (by kernel_rfl) ?_ _
            gi_wp2_with fail
            exact ⟨(KEEP.out Z hZ).1.trans (KeepsOthers.setCell _ _ _), ⟨(KEEP.out Z hZ).2.1.setCell (Nat.zero_le _) _, fun j hj => by rw [Below.heap_setCell _ _ _ _ (show j ≠ w.heap.size + 1 + 1 + 1 by omega)]; exact (KEEP.out Z hZ).2.2 j hj⟩, ⟨(x : Int), (boxed_below HQ.out.1 hZ).other (by omega) _, (boxed_below HQ.out.2.1 hZ).other (by omega) _, (boxed_below HQ.out.2.2.1 hZ).other (by omega) _, (boxed_below HQ.out.2.2.2.1 hZ).set _, .inr ⟨x, by rw [HL.out, HL0.out]; rfl, rfl⟩⟩, (HQ.out.2.2.2.2.trans (hZ.mono hV6)).setCell (by show w.heap.size ≤ w.heap.size + 1 + 1 + 1; omega) _, Nat.le_trans h7 (by simp [World.setCell]; exact hZ.size), h8⟩
          exact AllReadyIn.nil
        refine AllReadyIn.cons rfl (fun K hK => ?_) ?_
        · go_simp
          refine hK _ _ ?_
          try clear hK K
          refine wpAnyIn_ready (rs := [0]) (by kernel_rfl) (by simp) ?_
          refine AllReadyIn.cons rfl (fun K hK => ?_) AllReadyIn.nil
          go_simp
          refine hK _ _ ?_
          try clear hK K
          refine wpAnyIn_ready (rs := [1]) (by kernel_rfl) (by simp) ?_
          refine AllReadyIn.cons rfl (fun K hK => ?_) AllReadyIn.nil
          go_simp
          refine hK _ _ ?_
          try clear hK K
          refine wpAnyIn_take (i := 2) (v := ?_) rfl rfl (by kernel_rfl) (by kernel_rfl) (by kernel_rfl) (fun _ _ _ h => h) ⟨Or.inl ⟨by rfl, ?_⟩, fun _ => rfl⟩ ?_
          rotate_left
          focus (intro w; go_simp; first | done | with_reducible rfl)
          refine wpAnyIn_ready (rs := [3]) (by kernel_rfl) (by simp) ?_
          refine AllReadyIn.cons rfl (fun K hK => ?_) AllReadyIn.nil
          go_simp
          refine hK _ _ ?_
          try clear hK K
          refine wpAnyIn_ready (rs := [5]) (by kernel_rfl) (by simp) ?_
          refine AllReadyIn.cons rfl (fun K hK => ?_) AllReadyIn.nil
          go_simp
          refine hK _ _ ?_
          try clear hK K
          refine wpAnyIn_ready (rs := [6]) (by kernel_rfl) (by simp) ?_
          refine AllReadyIn.cons rfl (fun K hK => ?_) AllReadyIn.nil
          go_simp
          refine hK _ _ ?_
          try clear hK K
          refine wpAnyIn_ready (rs := [8]) (by kernel_rfl) (by simp) ?_
          refine AllReadyIn.cons rfl (fun K hK => ?_) AllReadyIn.nil
          go_simp
          gi_wp2_with (refine ⟨trivial, ?_⟩; gi_at_call 58; refine (callsIn_wide.2 HHS.out).mono ?_; rintro e Z ⟨rfl, hZ0⟩; have hZ := below_of_drew hZ0; have z5 := (boxed_below HQ.out.2.2.2.1 hZ).cell; have z4 := (boxed_below HQ.out.2.2.1 hZ).cell; have y5 := (boxed_below HQ.out.2.2.2.1 hZ).frozen; have y4 := (boxed_below HQ.out.2.2.1 hZ).frozen)
          try (refine hK _ _ ?_)
          try clear hK K
          refine wpAnyIn_take (i := 9) (v := ?_) rfl rfl (by kernel_rfl) (by kernel_rfl) (by kernel_rfl) (fun _ _ _ h => h) ⟨Or.inl ⟨by rfl, ?_⟩, fun _ => rfl⟩ ?_
          rotate_left
          focus (intro w; go_simp; first | done | with_reducible rfl)
          refine wpAnyIn_done (by kernel_rfl) ?_ _
          gi_wp2_with fail
          exact ⟨(KEEP.out Z hZ).1.trans (KeepsOthers.setCell _ _ _), ⟨(KEEP.out Z hZ).2.1.setCell (Nat.zero_le _) _, fun j hj => by rw [Below.heap_setCell _ _ _ _ (show j ≠ w.heap.size + 1 + 1 + 1 by omega)]; exact (KEEP.out Z hZ).2.2 j hj⟩, ⟨(x : Int), (boxed_below HQ.out.1 hZ).other (by omega) _, (boxed_below HQ.out.2.1 hZ).other (by omega) _, (boxed_below HQ.out.2.2.1 hZ).other (by omega) _, (boxed_below HQ.out.2.2.2.1 hZ).set _, .inr ⟨x, by rw [HL.out, HL0.out]; rfl, rfl⟩⟩, (HQ.out.2.2.2.2.trans (hZ.mono hV6)).setCell (by show w.heap.size ≤ w.heap.size + 1 + 1 + 1; omega) _, Nat.le_trans h7 (by simp [World.setCell]; exact hZ.size), h8⟩
        exact AllReadyIn.nil
      · have HL1 := hid hl1
        have hp1 : ¬ (p : Int) = -1 := by omega
        clear hl1 hr hsv
        gi_wp2_with fail
        refine region_round rfl (by kernel_rfl) (by kernel_rfl) ?_
        refine wpAnyIn_take (i := 4) (v := ?_) rfl rfl (by kernel_rfl) (by kernel_rfl) (by kernel_rfl) (fun _ _ _ h => h) ⟨Or.inl ⟨by rfl, ?_⟩, fun _ => rfl⟩ ?_
        rotate_left
        focus (intro w; go_simp; first | done | with_reducible rfl)
        refine wpAnyIn_ready (rs := [0, 7]) (by kernel_rfl) (by simp) ?_
        refine AllReadyIn.cons rfl (fun K hK => ?_) ?_
        · go_simp
          refine hK _ _ ?_
          try clear hK K
          refine wpAnyIn_ready (rs := [1, 7]) (by kernel_rfl) (by simp) ?_
          refine AllReadyIn.cons rfl (fun K hK => ?_) ?_
          · go_simp
            refine hK _ _ ?_
            try clear hK K
            refine wpAnyIn_take (i := 2) (v := ?_) rfl rfl (by kernel_rfl) (by kernel_rfl) (by kernel_rfl) (fun _ _ _ h => h) ⟨Or.inl ⟨by rfl, ?_⟩, fun _ => rfl⟩ ?_
            rotate_left
            focus (intro w; go_simp; first | done | with_reducible rfl)
            refine wpAnyIn_ready (rs := [3, 7]) (by kernel_rfl) (by simp) ?_
            refine AllReadyIn.cons rfl (fun K hK => ?_) ?_
            · go_simp
              refine hK _ _ ?_
              try clear hK K
              refine wpAnyIn_ready (rs := [5, 7]) (by kernel_rfl) (by simp) ?_
              refine AllReadyIn.cons rfl (fun K hK => ?_) ?_
              · go_simp
                refine hK _ _ ?_
                try clear hK K
                refine wpAnyIn_ready (rs := [6, 7]) (by kernel_rfl) (by simp) ?_
                refine AllReadyIn.cons rfl (fun K hK => ?_) ?_
                · go_simp
                  refine hK _ _ ?_
                  try clear hK K
                  refine wpAnyIn_ready (rs := [7]) (by kernel_rfl) (by simp) ?_
                  refine AllReadyIn.cons rfl (fun K hK => ?_) AllReadyIn.nil
                  go_simp
                  refine hK _ _ ?_
                  try clear hK K
                  refine wpAnyIn_ready (rs := [8]) (by kernel_rfl) (by simp) ?_
                  refine AllReadyIn.cons rfl (fun K hK => ?_) AllReadyIn.nil
                  go_simp
                  gi_wp2_with (refine ⟨trivial, ?_⟩; gi_at_call 58; refine (callsIn_wide.2 HHS.out).mono ?_; rintro e Z ⟨rfl, hZ0⟩; have hZ := below_of_drew hZ0; have z5 := (boxed_below HQ.out.2.2.2.1 hZ).cell; have z4 := (boxed_below HQ.out.2.2.1 hZ).cell; have y5 := (boxed_below HQ.out.2.2.2.1 hZ).frozen; have y4 := (boxed_below HQ.out.2.2.1 hZ).frozen)
                  try (refine hK _ _ ?_)
                  try clear hK K
                  refine wpAnyIn_take (i := 9) (v := ?_) rfl rfl (by kernel_rfl) (by kernel_rfl) (by kernel_rfl) (fun _ _ _ h => h) ⟨Or.inl ⟨by rfl, ?_⟩, fun _ => rfl⟩ ?_
                  rotate_left
                  focus (intro w; go_simp; first | done | with_reducible rfl)
                  refine wpAnyIn_done (by kernel_rfl) ?_ _
                  gi_wp2_with fail
                  exact ⟨(KEEP.out Z hZ).1.trans (KeepsOthers.setCell _ _ _), rfl, (boxed_below HQ.out.2.2.1 hZ).set _, by rw [HL.out, HL1.out]; simp, (HQ.out.2.2.2.2.trans (hZ.mono hV6)).setCell (by show w.heap.size ≤ w.heap.size + 1 + 1; omega) _⟩
                refine AllReadyIn.cons rfl (fun K hK => ?_) ?_
                · go_simp
                  refine hK _ _ ?_
                  try clear hK K
                  refine wpAnyIn_ready (rs := [6]) (by kernel_rfl) (by simp) ?_
                  refine AllReadyIn.cons rfl (fun K hK => ?_) AllReadyIn.nil
                  go_simp
                  refine hK _ _ ?_
                  try clear hK K
                  refine wpAnyIn_ready (rs := [8]) (by kernel_rfl) (by simp) ?_
                  refine AllReadyIn.cons rfl (fun K hK => ?_) AllReadyIn.nil
                  go_simp
                  gi_wp2_with (refine ⟨trivial, ?_⟩; gi_at_call 58; refine (callsIn_wide.2 HHS.out).mono ?_; rintro e Z ⟨rfl, hZ0⟩; have hZ := below_of_drew hZ0; have z5 := (boxed_below HQ.out.2.2.2.1 hZ).cell; have z4 := (boxed_below HQ.out.2.2.1 hZ).cell; have y5 := (boxed_below HQ.out.2.2.2.1 hZ).frozen; have y4 := (boxed_below HQ.out.2.2.1 hZ).frozen)
                  try (refine hK _ _ ?_)
                  try clear hK K
                  refine wpAnyIn_take (i := 9) (v := ?_) rfl rfl (by kernel_rfl) (by kernel_rfl) (by kernel_rfl) (fun _ _ _ h => h) ⟨Or.inl ⟨by rfl, ?_⟩, fun _ => rfl⟩ ?_
                  rotate_left
                  focus (intro w; go_simp; first | done | with_reducible rfl)
                  refine wpAnyIn_done (by kernel_rfl) ?_ _
                  gi_wp2_with fail
                  exact ⟨(KEEP.out Z hZ).1.trans (KeepsOthers.setCell _ _ _), rfl, (boxed_below HQ.out.2.2.1 hZ).set _, by rw [HL.out, HL1.out]; simp, (HQ.out.2.2.2.2.trans (hZ.mono hV6)).setCell (by show w.heap.size ≤ w.heap.size + 1 + 1; omega) _⟩
                exact AllReadyIn.nil
              refine AllReadyIn.cons rfl (fun K hK => ?_) ?_
              · go_simp
                refine hK _ _ ?_
                try clear hK K
                refine wpAnyIn_ready (rs := [5]) (by kernel_rfl) (by simp) ?_
                refine AllReadyIn.cons rfl (fun K hK => ?_) AllReadyIn.nil
                go_simp
                refine hK _ _ ?_
                try clear hK K
                refine wpAnyIn_ready (rs := [6]) (by kernel_rfl) (by simp) ?_
                refine AllReadyIn.cons rfl (fun K hK => ?_) AllReadyIn.nil
                go_simp
                refine hK _ _ ?_
                try clear hK K
                refine wpAnyIn_ready (rs := [8]) (by kernel_rfl) (by simp) ?_
                refine AllReadyIn.cons rfl (fun K hK => ?_) AllReadyIn.nil
                go_simp
                gi_wp2_with (refine ⟨trivial, ?_⟩; gi_at_call 58; refine (callsIn_wide.2 HHS.out).mono ?_; rintro e Z ⟨rfl, hZ0⟩; have hZ := below_of_drew hZ0; have z5 := (boxed_below HQ.out.2.2.2.1 hZ).cell; have z4 := (boxed_below HQ.out.2.2.1 hZ).cell; have y5 := (boxed_below HQ.out.2.2.2.1 hZ).frozen; have y4 := (boxed_below HQ.out.2.2.1 hZ).frozen)
                try (refine hK _ _ ?_)
                try clear hK K
                refine wpAnyIn_take (i := 9) (v := ?_) rfl rfl (by kernel_rfl) (by kernel_rfl) (by kernel_rfl) (fun _ _ _ h => h) ⟨Or.inl ⟨by rfl, ?_⟩, fun _ => rfl⟩ ?_
                rotate_left
                focus (intro w; go_simp; first | done | with_reducible rfl)
                refine wpAnyIn_done (by kernel_rfl) ?_ _
                gi_wp2_with fail
                exact ⟨(KEEP.out Z hZ).1.trans (KeepsOthers.setCell _ _ _), rfl, (boxed_below HQ.out.2.2.1 hZ).set _, by rw [HL.out, HL1.out]; simp, (HQ.out.2.2.2.2.trans (hZ.mono hV6)).setCell (by show w.heap.size ≤ w.heap.size + 1 + 1; omega) _⟩
              exact AllReadyIn.nil
            refine AllReadyIn.cons rfl (fun K hK => ?_) ?_
            · go_simp
              refine hK _ _ ?_
              try clear hK K
              refine wpAnyIn_ready (rs := [3]) (by kernel_rfl) (by simp) ?_
              refine AllReadyIn.cons rfl (fun K hK => ?_) AllReadyIn.nil
              go_simp
              refine hK _ _ ?_
              try clear hK K
              refine wpAnyIn_ready (rs := [5]) (by kernel_rfl) (by simp) ?_
              refine AllReadyIn.cons rfl (fun K hK => ?_) AllReadyIn.nil
              go_simp
              refine hK _ _ ?_
              try clear hK K
              refine wpAnyIn_ready (rs := [6]) (by kernel_rfl) (by simp) ?_
              refine AllReadyIn.cons rfl (fun K hK => ?_) AllReadyIn.nil
              go_simp
              refine hK _ _ ?_
              try clear hK K
              refine wpAnyIn_ready (rs := [8]) (by kernel_rfl) (by simp) ?_
              refine AllReadyIn.cons rfl (fun K hK => ?_) AllReadyIn.nil
              go_simp
              gi_wp2_with (refine ⟨trivial, ?_⟩; gi_at_call 58; refine (callsIn_wide.2 HHS.out).mono ?_; rintro e Z ⟨rfl, hZ0⟩; have hZ := below_of_drew hZ0; have z5 := (boxed_below HQ.out.2.2.2.1 hZ).cell; have z4 := (boxed_below HQ.out.2.2.1 hZ).cell; have y5 := (boxed_below HQ.out.2.2.2.1 hZ).frozen; have y4 := (boxed_below HQ.out.2.2.1 hZ).frozen)
              try (refine hK _ _ ?_)
              try clear hK K
              refine wpAnyIn_take (i := 9) (v := ?_) rfl rfl (by kernel_rfl) (by kernel_rfl) (by kernel_rfl) (fun _ _ _ h => h) ⟨Or.inl ⟨by rfl, ?_⟩, fun _ => rfl⟩ ?_
              rotate_left
              focus (intro w; go_simp; first | done | with_reducible rfl)
              refine wpAnyIn_done (by kernel_rfl) ?_ _
              gi_wp2_with fail
              exact ⟨(KEEP.out Z hZ).1.trans (KeepsOthers.setCell _ _ _), rfl, (boxed_below HQ.out.2.2.1 hZ).set _, by rw [HL.out, HL1.out]; simp, (HQ.out.2.2.2.2.trans (hZ.mono hV6)).setCell (by show w.heap.size ≤ w.heap.size + 1 + 1; omega) _⟩
            exact AllReadyIn.nil
          refine AllReadyIn.cons rfl (fun K hK => ?_) ?_
          · go_simp
            refine hK _ _ ?_
            try clear hK K
            refine wpAnyIn_ready (rs := [1]) (by kernel_rfl) (by simp) ?_
            refine AllReadyIn.cons rfl (fun K hK => ?_) AllReadyIn.nil
            go_simp
            refine hK _ _ ?_
            try clear hK K
            refine wpAnyIn_take (i := 2) (v := ?_) rfl rfl (by kernel_rfl) (by kernel_rfl) (by kernel_rfl) (fun _ _ _ h => h) ⟨Or.inl ⟨by rfl, ?_⟩, fun _ => rfl⟩ ?_
            rotate_left
            focus (intro w; go_simp; first | done | with_reducible rfl)
            refine wpAnyIn_ready (rs := [3]) (by kernel_rfl) (by simp) ?_
            refine AllReadyIn.cons rfl (fun K hK => ?_) AllReadyIn.nil
            go_simp
            refine hK _ _ ?_
            try clear hK K
            refine wpAnyIn_ready (rs := [5]) (by kernel_rfl) (by simp) ?_
            refine AllReadyIn.cons rfl (fun K hK => ?_) AllReadyIn.nil
            go_simp
            refine hK _ _ ?_
            try clear hK K
            refine wpAnyIn_ready (rs := [6]) (by kernel_rfl) (by simp) ?_
            refine AllReadyIn.cons rfl (fun K hK => ?_) AllReadyIn.nil
            go_simp
            refine hK _ _ ?_
            try clear hK K
            refine wpAnyIn_ready (rs := [8]) (by kernel_rfl) (by simp) ?_
            refine AllReadyIn.cons rfl (fun K hK => ?_) AllReadyIn.nil
            go_simp
            gi_wp2_with (refine ⟨trivial, ?_⟩; gi_at_call 58; refine (callsIn_wide.2 HHS.out).mono ?_; rintro e Z ⟨rfl, hZ0⟩; have hZ := below_of_drew hZ0; have z5 := (boxed_below HQ.out.2.2.2.1 hZ).cell; have z4 := (boxed_below HQ.out.2.2.1 hZ).cell; have y5 := (boxed_below HQ.out.2.2.2.1 hZ).frozen; have y4 := (boxed_below HQ.out.2.2.1 hZ).frozen)
            try (refine hK _ _ ?_)
            try clear hK K
            refine wpAnyIn_take (i := 9) (v := ?_) rfl rfl (by kernel_rfl) (by kernel_rfl) (by kernel_rfl) (fun _ _ _ h => h) ⟨Or.inl ⟨by rfl, ?_⟩, fun _ => rfl⟩ ?_
            rotate_left
            focus (intro w; go_simp; first | done | with_reducible rfl)
            refine wpAnyIn_done (by kernel_rfl) ?_ _
            gi_wp2_with fail
            exact ⟨(KEEP.out Z hZ).1.trans (KeepsOthers.setCell _ _ _), rfl, (boxed_below HQ.out.2.2.1 hZ).set _, by rw [HL.out, HL1.out]; simp, (HQ.out.2.2.2.2.trans (hZ.mono hV6)).setCell (by show w.heap.size ≤ w.heap.size + 1 + 1; omega) _⟩
          exact AllReadyIn.nil
        refine AllReadyIn.cons rfl (fun K hK => ?_) ?_
        · go_simp
          refine hK _ _ ?_
          try clear hK K
          refine wpAnyIn_ready (rs := [0]) (by kernel_rfl) (by simp) ?_
          refine AllReadyIn.cons rfl (fun K hK => ?_) AllReadyIn.nil
          go_simp
          refine hK _ _ ?_
          try clear hK K
          refine wpAnyIn_ready (rs := [1]) (by kernel_rfl) (by simp) ?_
          refine AllReadyIn.cons rfl (fun K hK => ?_) AllReadyIn.nil
          go_simp
          refine hK _ _ ?_
          try clear hK K
          refine wpAnyIn_take (i := 2) (v := ?_) rfl rfl (by kernel_rfl) (by kernel_rfl) (by kernel_rfl) (fun _ _ _ h => h) ⟨Or.inl ⟨by rfl, ?_⟩, fun _ => rfl⟩ ?_
          rotate_left
          focus (intro w; go_simp; first | done | with_reducible rfl)
          refine wpAnyIn_ready (rs := [3]) (by kernel_rfl) (by simp) ?_
          refine AllReadyIn.cons rfl (fun K hK => ?_) AllReadyIn.nil
          go_simp
          refine hK _ _ ?_
          try clear hK K
          refine wpAnyIn_ready (rs := [5]) (by kernel_rfl) (by simp) ?_
          refine AllReadyIn.cons rfl (fun K hK => ?_) AllReadyIn.nil
          go_simp
          refine hK _ _ ?_
          try clear hK K
          refine wpAnyIn_ready (rs := [6]) (by kernel_rfl) (by simp) ?_
          refine AllReadyIn.cons rfl (fun K hK => ?_) AllReadyIn.nil
          go_simp
          refine hK _ _ ?_
          try clear hK K
          refine wpAnyIn_ready (rs := [8]) (by kernel_rfl) (by simp) ?_
          refine AllReadyIn.cons rfl (fun K hK => ?_) AllReadyIn.nil
          go_simp
          gi_wp2_with (refine ⟨trivial, ?_⟩; gi_at_call 58; refine (callsIn_wide.2 HHS.out).mono ?_; rintro e Z ⟨rfl, hZ0⟩; have hZ := below_of_drew hZ0; have z5 := (boxed_below HQ.out.2.2.2.1 hZ).cell; have z4 := (boxed_below HQ.out.2.2.1 hZ).cell; have y5 := (boxed_below HQ.out.2.2.2.1 hZ).frozen; have y4 := (boxed_below HQ.out.2.2.1 hZ).frozen)
          try (refine hK _ _ ?_)
          try clear hK K
          refine wpAnyIn_take (i := 9) (v := ?_) rfl rfl (by kernel_rfl) (by kernel_rfl) (by kernel_rfl) (fun _ _ _ h => h) ⟨Or.inl ⟨by rfl, ?_⟩, fun _ => rfl⟩ ?_
          rotate_left
          focus (intro w; go_simp; first | done | with_reducible rfl)
          refine wpAnyIn_done (by kernel_rfl) ?_ _
          gi_wp2_with fail
          exact ⟨(KEEP.out Z hZ).1.trans (KeepsOthers.setCell _ _ _), rfl, (boxed_below HQ.out.2.2.1 hZ).set _, by rw [HL.out, HL1.out]; simp, (HQ.out.2.2.2.2.trans (hZ.mono hV6)).setCell (by show w.heap.size ≤ w.heap.size + 1 + 1; omega) _⟩
        exact AllReadyIn.nil
    · rw [decide_eq_false hkr] at hhs
      have HHS := hid hhs
      have HL := hid (leadsTo_no (l := pre) hr hkr)
      have H5 := hid h5
      clear hhs hkr hr hsv h5
      gi_wp2_with fail
      refine region_round rfl (by kernel_rfl) (by kernel_rfl) ?_
      refine wpAnyIn_take (i := 4) (v := ?_) rfl rfl (by kernel_rfl) (by kernel_rfl) (by kernel_rfl) (fun _ _ _ h => h) ⟨Or.inl ⟨by rfl, ?_⟩, fun _ => rfl⟩ ?_
      rotate_left
      focus (intro w; go_simp; first | done | with_reducible rfl)
      refine wpAnyIn_ready (rs := [0, 7]) (by kernel_rfl) (by simp) ?_
      refine AllReadyIn.cons rfl (fun K hK => ?_) ?_
      · go_simp
        refine hK _ _ ?_
        try clear hK K
        refine wpAnyIn_ready (rs := [1, 7]) (by kernel_rfl) (by simp) ?_
        refine AllReadyIn.cons rfl (fun K hK => ?_) ?_
        · go_simp
          refine hK _ _ ?_
          try clear hK K
          refine wpAnyIn_take (i := 2) (v := ?_) rfl rfl (by kernel_rfl) (by kernel_rfl) (by kernel_rfl) (fun _ _ _ h => h) ⟨Or.inl ⟨by rfl, ?_⟩, fun _ => rfl⟩ ?_
          rotate_left
          focus (intro w; go_simp; first | done | with_reducible rfl)
          refine wpAnyIn_ready (rs := [3, 7]) (by kernel_rfl) (by simp) ?_
          refine AllReadyIn.cons rfl (fun K hK => ?_) ?_
          · go_simp
            refine hK _ _ ?_
            try clear hK K
            refine wpAnyIn_ready (rs := [5, 7]) (by kernel_rfl) (by simp) ?_
            refine AllReadyIn.cons rfl (fun K hK => ?_) ?_
            · go_simp
              refine hK _ _ ?_
              try clear hK K
              refine wpAnyIn_ready (rs := [6, 7]) (by kernel_rfl) (by simp) ?_
              refine AllReadyIn.cons rfl (fun K hK => ?_) ?_
              · go_simp
                refine hK _ _ ?_
                try clear hK K
                refine wpAnyIn_ready (rs := [7]) (by kernel_rfl) (by simp) ?_
                refine AllReadyIn.cons rfl (fun K hK => ?_) AllReadyIn.nil
                go_simp
                refine hK _ _ ?_
                try clear hK K
                refine wpAnyIn_ready (rs := [8]) (by kernel_rfl) (by simp) ?_
                refine AllReadyIn.cons rfl (fun K hK => ?_) AllReadyIn.nil
                go_simp
                gi_wp2_with (refine ⟨trivial, ?_⟩; gi_at_call 58; refine (callsIn_wide.2 HHS.out).mono ?_; rintro e Z ⟨rfl, hZ0⟩; have hZ := below_of_drew hZ0; have z5 := (boxed_below HQ.out.2.2.2.1 hZ).cell; have z4 := (boxed_below HQ.out.2.2.1 hZ).cell; have y5 := (boxed_below HQ.out.2.2.2.1 hZ).frozen; have y4 := (boxed_below HQ.out.2.2.1 hZ).frozen)
                try (refine hK _ _ ?_)
                try clear hK K
                refine wpAnyIn_take (i := 9) (v := ?_) rfl rfl (by kernel_rfl) (by kernel_rfl) (by kernel_rfl) (fun _ _ _ h => h) ⟨Or.inl ⟨by rfl, ?_⟩, fun _ => rfl⟩ ?_
                rotate_left
                focus (intro w; go_simp; first | done | with_reducible rfl)
                refine wpAnyIn_done (by kernel_rfl) ?_ _
                gi_wp2_with fail
                exact ⟨(KEEP.out Z hZ).1, (KEEP.out Z hZ).2, ⟨u, boxed_below HQ.out.1 hZ, boxed_below HQ.out.2.1 hZ, boxed_below HQ.out.2.2.1 hZ, boxed_below HQ.out.2.2.2.1 hZ, by rw [HL.out]; exact H5.out⟩, HQ.out.2.2.2.2.trans (hZ.mono hV6), Nat.le_trans h7 hZ.size, h8⟩
              refine AllReadyIn.cons rfl (fun K hK => ?_) ?_
              · go_simp
                refine hK _ _ ?_
                try clear hK K
                refine wpAnyIn_ready (rs := [6]) (by kernel_rfl) (by simp) ?_
                refine AllReadyIn.cons rfl (fun K hK => ?_) AllReadyIn.nil
                go_simp
                refine hK _ _ ?_
                try clear hK K
                refine wpAnyIn_ready (rs := [8]) (by kernel_rfl) (by simp) ?_
                refine AllReadyIn.cons rfl (fun K hK => ?_) AllReadyIn.nil
                go_simp
                gi_wp2_with (refine ⟨trivial, ?_⟩; gi_at_call 58; refine (callsIn_wide.2 HHS.out).mono ?_; rintro e Z ⟨rfl, hZ0⟩; have hZ := below_of_drew hZ0; have z5 := (boxed_below HQ.out.2.2.2.1 hZ).cell; have z4 := (boxed_below HQ.out.2.2.1 hZ).cell; have y5 := (boxed_below HQ.out.2.2.2.1 hZ).frozen; have y4 := (boxed_below HQ.out.2.2.1 hZ).frozen)
                try (refine hK _ _ ?_)
                try clear hK K
                refine wpAnyIn_take (i := 9) (v := ?_) rfl rfl (by kernel_rfl) (by kernel_rfl) (by kernel_rfl) (fun _ _ _ h => h) ⟨Or.inl ⟨by rfl, ?_⟩, fun _ => rfl⟩ ?_
                rotate_left
                focus (intro w; go_simp; first | done | with_reducible rfl)
                refine wpAnyIn_done (by kernel_rfl) ?_ _
                gi_wp2_with fail
                exact ⟨(KEEP.out Z hZ).1, (KEEP.out Z hZ).2, ⟨u, boxed_below HQ.out.1 hZ, boxed_below HQ.out.2.1 hZ, boxed_below HQ.out.2.2.1 hZ, boxed_below HQ.out.2.2.2.1 hZ, by rw [HL.out]; exact H5.out⟩, HQ.out.2.2.2.2.trans (hZ.mono hV6), Nat.le_trans h7 hZ.size, h8⟩
              exact AllReadyIn.nil
            refine AllReadyIn.cons rfl (fun K hK => ?_) ?_
            · go_simp
              refine hK _ _ ?_
              try clear hK K
              refine wpAnyIn_ready (rs := [5]) (by kernel_rfl) (by simp) ?_
              refine AllReadyIn.cons rfl (fun K hK => ?_) AllReadyIn.nil
              go_simp
              refine hK _ _ ?_
              try clear hK K
              refine wpAnyIn_ready (rs := [6]) (by kernel_rfl) (by simp) ?_
              refine AllReadyIn.cons rfl (fun K hK => ?_) AllReadyIn.nil
              go_simp
              refine hK _ _ ?_
              try clear hK K
              refine wpAnyIn_ready (rs := [8]) (by kernel_rfl) (by simp) ?_
              refine AllReadyIn.cons rfl (fun K hK => ?_) AllReadyIn.nil
              go_simp
              gi_wp2_with (refine ⟨trivial, ?_⟩; gi_at_call 58; refine (callsIn_wide.2 HHS.out).mono ?_; rintro e Z ⟨rfl, hZ0⟩; have hZ := below_of_drew hZ0; have z5 := (boxed_below HQ.out.2.2.2.1 hZ).cell; have z4 := (boxed_below HQ.out.2.2.1 hZ).cell; have y5 := (boxed_below HQ.out.2.2.2.1 hZ).frozen; have y4 := (boxed_below HQ.out.2.2.1 hZ).frozen)
              try (refine hK _ _ ?_)
              try clear hK K
              refine wpAnyIn_take (i := 9) (v := ?_) rfl rfl (by kernel_rfl) (by kernel_rfl) (by kernel_rfl) (fun _ _ _ h => h) ⟨Or.inl ⟨by rfl, ?_⟩, fun _ => rfl⟩ ?_
              rotate_left
              focus (intro w; go_simp; first | done | with_reducible rfl)
              refine wpAnyIn_done (by kernel_rfl) ?_ _
              gi_wp2_with fail
              exact ⟨(KEEP.out Z hZ).1, (KEEP.out Z hZ).2, ⟨u, boxed_below HQ.out.1 hZ, boxed_below HQ.out.2.1 hZ, boxed_below HQ.out.2.2.1 hZ, boxed_below HQ.out.2.2.2.1 hZ, by rw [HL.out]; exact H5.out⟩, HQ.out.2.2.2.2.trans (hZ.mono hV6), Nat.le_trans h7 hZ.size, h8⟩
            exact AllReadyIn.nil
          refine AllReadyIn.cons rfl (fun K hK => ?_) ?_
          · go_simp
            refine hK _ _ ?_
            try clear hK K
            refine wpAnyIn_ready (rs := [3]) (by kernel_rfl) (by simp) ?_
            refine AllReadyIn.cons rfl (fun K hK => ?_) AllReadyIn.nil
            go_simp
            refine hK _ _ ?_
            try clear hK K
            refine wpAnyIn_ready (rs := [5]) (by kernel_rfl) (by simp) ?_
            refine AllReadyIn.cons rfl (fun K hK => ?_) AllReadyIn.nil
            go_simp
            refine hK _ _ ?_
            try clear hK K
            refine wpAnyIn_ready (rs := [6]) (by kernel_rfl) (by simp) ?_
            refine AllReadyIn.cons rfl (fun K hK => ?_) AllReadyIn.nil
            go_simp
            refine hK _ _ ?_
            try clear hK K
            refine wpAnyIn_ready (rs := [8]) (by kernel_rfl) (by simp) ?_
            refine AllReadyIn.cons rfl (fun K hK => ?_) AllReadyIn.nil
            go_simp
            gi_wp2_with (refine ⟨trivial, ?_⟩; gi_at_call 58; refine (callsIn_wide.2 HHS.out).mono ?_; rintro e Z ⟨rfl, hZ0⟩; have hZ := below_of_drew hZ0; have z5 := (boxed_below HQ.out.2.2.2.1 hZ).cell; have z4 := (boxed_below HQ.out.2.2.1 hZ).cell; have y5 := (boxed_below HQ.out.2.2.2.1 hZ).frozen; have y4 := (boxed_below HQ.out.2.2.1 hZ).frozen)
            try (refine hK _ _ ?_)
            try clear hK K
            refine wpAnyIn_take (i := 9) (v := ?_) rfl rfl (by kernel_rfl) (by kernel_rfl) (by kernel_rfl) (fun _ _ _ h => h) ⟨Or.inl ⟨by rfl, ?_⟩, fun _ => rfl⟩ ?_
            rotate_left
            focus (intro w; go_simp; first | done | with_reducible rfl)
            refine wpAnyIn_done (by kernel_rfl) ?_ _
            gi_wp2_with fail
            exact ⟨(KEEP.out Z hZ).1, (KEEP.out Z hZ).2, ⟨u, boxed_below HQ.out.1 hZ, boxed_below HQ.out.2.1 hZ, boxed_below HQ.out.2.2.1 hZ, boxed_below HQ.out.2.2.2.1 hZ, by rw [HL.out]; exact H5.out⟩, HQ.out.2.2.2.2.trans (hZ.mono hV6), Nat.le_trans h7 hZ.size, h8⟩
          exact AllReadyIn.nil
        refine AllReadyIn.cons rfl (fun K hK => ?_) ?_
        · go_simp
          refine hK _ _ ?_
          try clear hK K
          refine wpAnyIn_ready (rs := [1]) (by kernel_rfl) (by simp) ?_
          refine AllReadyIn.cons rfl (fun K hK => ?_) AllReadyIn.nil
          go_simp
          refine hK _ _ ?_
          try clear hK K
          refine wpAnyIn_take (i := 2) (v := ?_) rfl rfl (by kernel_rfl) (by kernel_rfl) (by kernel_rfl) (fun _ _ _ h => h) ⟨Or.inl ⟨by rfl, ?_⟩, fun _ => rfl⟩ ?_
          rotate_left
          focus (intro w; go_simp; first | done | with_reducible rfl)
          refine wpAnyIn_ready (rs := [3]) (by kernel_rfl) (by simp) ?_
          refine AllReadyIn.cons rfl (fun K hK => ?_) AllReadyIn.nil
          go_simp
          refine hK _ _ ?_
          try clear hK K
          refine wpAnyIn_ready (rs := [5]) (by kernel_rfl) (by simp) ?_
          refine AllReadyIn.cons rfl (fun K hK => ?_) AllReadyIn.nil
          go_simp
          refine hK _ _ ?_
          try clear hK K
          refine wpAnyIn_ready (rs := [6]) (by kernel_rfl) (by simp) ?_
          refine AllReadyIn.cons rfl (fun K hK => ?_) AllReadyIn.nil
          go_simp
          refine hK _ _ ?_
          try clear hK K
          refine wpAnyIn_ready (rs := [8]) (by kernel_rfl) (by simp) ?_
          refine AllReadyIn.cons rfl (fun K hK => ?_) AllReadyIn.nil
          go_simp
          gi_wp2_with (refine ⟨trivial, ?_⟩; gi_at_call 58; refine (callsIn_wide.2 HHS.out).mono ?_; rintro e Z ⟨rfl, hZ0⟩; have hZ := below_of_drew hZ0; have z5 := (boxed_below HQ.out.2.2.2.1 hZ).cell; have z4 := (boxed_below HQ.out.2.2.1 hZ).cell; have y5 := (boxed_below HQ.out.2.2.2.1 hZ).frozen; have y4 := (boxed_below HQ.out.2.2.1 hZ).frozen)
          try (refine hK _ _ ?_)
          try clear hK K
          refine wpAnyIn_take (i := 9) (v := ?_) rfl rfl (by kernel_rfl) (by kernel_rfl) (by kernel_rfl) (fun _ _ _ h => h) ⟨Or.inl ⟨by rfl, ?_⟩, fun _ => rfl⟩ ?_
          rotate_left
          focus (intro w; go_simp; first | done | with_reducible rfl)
          refine wpAnyIn_done (by kernel_rfl) ?_ _
          gi_wp2_with fail
          exact ⟨(KEEP.out Z hZ).1, (KEEP.out Z hZ).2, ⟨u, boxed_below HQ.out.1 hZ, boxed_below HQ.out.2.1 hZ, boxed_below HQ.out.2.2.1 hZ, boxed_below HQ.out.2.2.2.1 hZ, by rw [HL.out]; exact H5.out⟩, HQ.out.2.2.2.2.trans (hZ.mono hV6), Nat.le_trans h7 hZ.size, h8⟩
        exact AllReadyIn.nil
      refine AllReadyIn.cons rfl (fun K hK => ?_) ?_
      · go_simp
        refine hK _ _ ?_
        try clear hK K
        refine wpAnyIn_ready (rs := [0]) (by kernel_rfl) (by simp) ?_
        refine AllReadyIn.cons rfl (fun K hK => ?_) AllReadyIn.nil
        go_simp
        refine hK _ _ ?_
        try clear hK K
        refine wpAnyIn_ready (rs := [1]) (by kernel_rfl) (by simp) ?_
        refine AllReadyIn.cons rfl (fun K hK => ?_) AllReadyIn.nil
        go_simp
        refine hK _ _ ?_
        try clear hK K
        refine wpAnyIn_take (i := 2) (v := ?_) rfl rfl (by kernel_rfl) (by kernel_rfl) (by kernel_rfl) (fun _ _ _ h => h) ⟨Or.inl ⟨by rfl, ?_⟩, fun _ => rfl⟩ ?_
        rotate_left
        focus (intro w; go_simp; first | done | with_reducible rfl)
        refine wpAnyIn_ready (rs := [3]) (by kernel_rfl) (by simp) ?_
        refine AllReadyIn.cons rfl (fun K hK => ?_) AllReadyIn.nil
        go_simp
        refine hK _ _ ?_
        try clear hK K
        refine wpAnyIn_ready (rs := [5]) (by kernel_rfl) (by simp) ?_
        refine AllReadyIn.cons rfl (fun K hK => ?_) AllReadyIn.nil
        go_simp
        refine hK _ _ ?_
        try clear hK K
        refine wpAnyIn_ready (rs := [6]) (by kernel_rfl) (by simp) ?_
        refine AllReadyIn.cons rfl (fun K hK => ?_) AllReadyIn.nil
        go_simp
        refine hK _ _ ?_
        try clear hK K
        refine wpAnyIn_ready (rs := [8]) (by kernel_rfl) (by simp) ?_
        refine AllReadyIn.cons rfl (fun K hK => ?_) AllReadyIn.nil
        go_simp
        gi_wp2_with (refine ⟨trivial, ?_⟩; gi_at_call 58; refine (callsIn_wide.2 HHS.out).mono ?_; rintro e Z ⟨rfl, hZ0⟩; have hZ := below_of_drew hZ0; have z5 := (boxed_below HQ.out.2.2.2.1 hZ).cell; have z4 := (boxed_below HQ.out.2.2.1 hZ).cell; have y5 := (boxed_below HQ.out.2.2.2.1 hZ).frozen; have y4 := (boxed_below HQ.out.2.2.1 hZ).frozen)
        try (refine hK _ _ ?_)
        try clear hK K
        refine wpAnyIn_take (i := 9) (v := ?_) rfl rfl (by kernel_rfl) (by kernel_rfl) (by kernel_rfl) (fun _ _ _ h => h) ⟨Or.inl ⟨by rfl, ?_⟩, fun _ => rfl⟩ ?_
        rotate_left
        focus (intro w; go_simp; first | done | with_reducible rfl)
        refine wpAnyIn_done (by kernel_rfl) ?_ _
        gi_wp2_with fail
        exact ⟨(KEEP.out Z hZ).1, (KEEP.out Z hZ).2, ⟨u, boxed_below HQ.out.1 hZ, boxed_below HQ.out.2.1 hZ, boxed_below HQ.out.2.2.1 hZ, boxed_below HQ.out.2.2.2.1 hZ, by rw [HL.out]; exact H5.out⟩, HQ.out.2.2.2.2.trans (hZ.mono hV6), Nat.le_trans h7 hZ.size, h8⟩
      exact AllReadyIn.nil
  case done =>
    rintro Dd T xs V hDd rfl ⟨⟨u, h1, h2, h3, h4, h5⟩, h6, h7, h8⟩ hK
    have c4 := h4.cell
    have c3 := h3.cell
    have f3 := h3.frozen
    have hK' : (V.setCell ⟨w.heap.size + 1 + 1, 0, none⟩ (.int .i64 u)).heap[Dd]? = some (.deferred (some [])) := (KeepsOthers.setCell _ _ _).same Dd _ hK rfl
    have q4 := (h3.set (.int .i64 u)).cell
    have qB := h6.setCell (p := ⟨w.heap.size + 1 + 1, 0, none⟩) (by show w.heap.size ≤ w.heap.size + 1 + 1; omega) (.int .i64 u)
    gi_wp2
    refine ⟨by simp, .inl ⟨_, _, rfl, run_takeDeferred hK', ?_⟩⟩
    have q5 := cell_kept q4 (grownBy_putObj' _ Dd (.deferred none)) (fun r e => by cases e; exact ⟨_, hK', rfl⟩)
    exact ⟨.int .i64 u, by simp [results, Try.results83, go_sem, q5], by rw [h5.only], qB.trans (belowK_b (w := w) (Nat.le_refl _) _ Dd _ _ (by omega) hK' rfl rfl)⟩
  case stop =>
    rintro Dd cd pre V hDd hpre ⟨rfl, hb, h2, hB⟩ hK
    have q4 := hb.cell
    gi_wp2
    refine ⟨by simp, .inl ⟨_, _, rfl, run_takeDeferred hK, ?_⟩⟩
    have q5 := cell_kept q4 (grownBy_putObj' _ Dd (.deferred none)) (fun r e => by cases e; exact ⟨_, hK, rfl⟩)
    exact ⟨.int .i64 (-1), by simp [results, Try.results83, go_sem, q5], by rw [onlyP_many (Nat.le_trans h2 (leadsTo_len hpre))], hB.trans (belowK_b (w := w) (Nat.le_refl _) _ Dd _ _ (by omega) hK rfl rfl)⟩
end Go.Proofs.Ythcenlplfcbfjaa
