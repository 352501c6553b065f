/- The edges that lead out of a loop: the program. -/
import Derived.Test.YthcenlplfcbfjaaRingOf8
import Derived.Test.YthcenlplfcbfjaaSexit8
import Derived.Test.YthcenlplfcbfjaaIback8
import Derived.Test.YthcenlplfcbfjaaRound8
namespace Go.Proofs.Ythcenlplfcbfjaa
open Go Go.RowKit Go.Shelf
attribute [local go_sem] Oper.semAt_some
set_option linter.unusedVariables false
set_option linter.unusedSimpArgs false
set_option maxRecDepth 100000

def outB (S : List Nat) (e : Nat × Nat) : Bool := decide (e.1 ∈ S) && !(decide (e.2 ∈ S))
set_option maxHeartbeats 8000000 in
theorem iExits_yes {g : List (List Nat)} (G : Gr g) (k : Nat) (l : Nat × List Nat) (hS : l.2.Pairwise (· < ·)) (hSl : l.2.length ≤ 12) (a : Option Addr) (c : Nat) (w : World) (h : GRow w a g) (HRO : ∀ W, Below w.heap.size w W → Calls Try.prog 62 #[.agg #[.slice a g.length c], .int .i64 (k : Int)] W fun e w' => (∃ ra rc, e = .returned (.tuple #[.agg #[.int .i64 (l.1 : Int), .slice ra l.2.length rc], .bool true]) ∧ w'.ownsRow (W.heap.size + 2) 3 1 (.slice ra l.2.length rc) l.2.length (ints (nats l.2))) ∧ Below W.heap.size W w') :
    Calls Try.prog 31 #[.agg #[.slice a g.length c], .int .i64 (k : Int)] w fun e w' => ∃ v ys, e = .returned (.tuple #[v, .bool true]) ∧ OwnL w' w.heap.size v ys ∧ lists ys = pairsL ((edgesL g).filter (outB l.2)) ∧ Below w.heap.size w w' := by
  have hgm := G.most
  have HB := hid HRO
  have b0 := below1 w (.cells #[.slice a g.length c] 28)
  have d0 : (w.alloc (.cells #[.slice a g.length c] 28)).cell? ⟨w.heap.size, 0, none⟩ = some (.slice a g.length c) := by simp [go_sem]
  have z0 : (w.alloc (.cells #[.slice a g.length c] 28)).heap.size = w.heap.size + 1 := by simp
  have H := hid h
  clear h HRO
  refine (callsIn_wide (n := 12)).1 ?_
  refine callsIn_of_wp_marks Try.func31 rfl trivial ?_ rfl
  simp only [Try.ntmps31, List.size_toArray, List.length_cons, List.length_nil, Nat.reduceAdd, Nat.reduceSub, Array.replicate_succ, Array.replicate_zero, List.push_toArray, List.append_toArray, List.nil_append, List.cons_append]
  gi_wp2_with (first | (refine ⟨trivial, ?_⟩; gi_at_call 62; refine (callsIn_wide.2 (HB.out _ b0)).mono ?_; rintro e w1 ⟨⟨ra, rc, rfl, hro⟩, hb1⟩; have d1 := cell_below d0 hb1; have d2 := cell_below d1 (below1 w1 (.cells #[.int .i64 (l.1 : Int), .slice ra l.2.length rc] 78)); have d3 := cell_below d1 (below2 w1 (.cells #[.int .i64 (l.1 : Int), .slice ra l.2.length rc] 78) (.cells #[.slice none 0 0] 22))) | (refine ⟨trivial, ?_⟩; gi_at_call 63; refine (callsIn_wide.2 (edgesIn_any _ _ _ _)).mono ?_; rintro e w' ⟨rfl, rfl⟩))
  obtain ⟨Y, hY⟩ : ∃ Y, w1.alloc (.cells #[.int .i64 (l.1 : Int), .slice ra l.2.length rc] 78) = Y := ⟨_, rfl⟩
  have zY : Y.heap.size = w1.heap.size + 1 := by rw [← hY]; simp
  have bY : Below w1.heap.size w1 Y := by rw [← hY]; exact below1 _ _
  have r1 : Y.cell? ⟨w1.heap.size, 1, none⟩ = some (.slice ra l.2.length rc) := by rw [← hY]; simp [go_sem]
  have hrr : Row Y ra (nats l.2) := (own_row (c := rc) (by rw [nats_length]; exact hro)).below bY
  obtain ⟨X, hX⟩ : ∃ X, ((Y.alloc (.cells #[.slice none 0 0] 22)).alloc (.cells #[.slice a g.length c] 28)) = X := ⟨_, rfl⟩
  have zX : X.heap.size = w1.heap.size + 3 := by rw [← hX]; simp [zY]
  have bX : Below Y.heap.size Y X := by rw [← hX]; exact below2 _ _ _
  have BY : Below w.heap.size w Y := bstep' (bstep' b0 hb1) bY
  have BX : Below w.heap.size w X := bstep' BY bX
  have xl : Boxed X (w1.heap.size + 1) 22 (.slice none 0 0) := by
    rw [← hX, ← zY]
    exact (Boxed.new Y 22 _).alloc _
  have xg : X.cell? ⟨w1.heap.size + 1 + 1, 0, none⟩ = some (.slice a g.length c) := by
    rw [← hX]
    have := Boxed.new (Y.alloc (.cells #[.slice none 0 0] 22)) 28 (.slice a g.length c)
    rw [World.size_alloc, zY] at this
    exact this.cell
  rw [hY, hX]
  have HH := hid (fun W (hb : Below Y.heap.size Y W) (x : Nat) => has_any ra rc l.2 x W (by omega) (hrr.below hb) hS)
  have HR1 := hid (fun W (hb : Below Y.heap.size Y W) => cell_below r1 hb)
  have hz1 : w.heap.size + 1 ≤ w1.heap.size := by have := hb1.size; omega
  clear hY hX hro hb1 d1 d2 d3 b0 d0 HB r1 hrr bY
  refine range_own rfl (by omega) (gf := 92) (lb := #[.pointer (some ⟨w1.heap.size + 1 + 1, 0, none⟩)]) rfl trivial (enters_of Try.func92 (by kernel_rfl) rfl)
    (edges_own G a c (fun e => Lead g e.1 e.2) (edges_lead G) (order_lt G) (dfs_len G).1 _ (by omega) (w1.heap.size + 1 + 1) (fun k => k < X.heap.size ∧ k ≠ w1.heap.size + 1) w X H.out BX (fun k hk => ⟨by have := BX.size; omega, by omega⟩) ⟨by omega, by omega⟩ (fun k hk => hk.1) xg) (fun k hk => hk.1) (Below.refl _ _) (fun _ => rfl)
    (fun T pre V => (∃ oa oc zs, Boxed V (w1.heap.size + 1) 22 (.slice oa zs.length oc) ∧ Made V T [] (.slice oa zs.length oc) zs ∧ lists zs = pairsL ((pre.map (·.1)).filter (outB l.2))) ∧ Below Y.heap.size Y V ∧ T ≤ V.heap.size ∧ X.heap.size ≤ T)
    (fun _ _ _ => False)
    (fun T s A B row hs hg hr => by
      obtain ⟨⟨oa, oc, zs, h1, h2, h3⟩, h4, h5, h6⟩ := hs
      exact ⟨⟨oa, oc, zs, h1.kept hg (fun e => by have := (hr _ e.symm).1; omega), Sep.calm h2 hg (fun r e => (hr r e).2), h3⟩, h4.grown hg h4.size (fun k e => by have := (hr _ e).1; omega), Nat.le_trans h5 hg.size, h6⟩)
    (fun _ _ _ _ _ hs _ _ => hs)
    (fun W' hg => ⟨⟨none, 0, [], xl.kept hg (by simp), ⟨by intro x hx; simp [vals] at hx; subst hx; exact World.ownsRow_nil _ _ _ _, by simp⟩, rfl⟩, bX.grown hg bX.size (fun k e => by cases e), Nat.le_refl _, hg.size⟩)
    (fun x => { tmps := #[Value.agg #[Value.slice a g.length c], Value.int IntKind.i64 ↑k, Value.pointer (some { block := w.heap.size, off := 0 }), undef, Value.slice none 0 0, Value.bool false, Value.pointer (some { block := w1.heap.size, off := 0 }), Value.bool true, Value.pointer (some { block := w1.heap.size + 1, off := 0 }), .int .i64 (x.1.1 : Int), .int .i64 (x.1.2 : Int), Value.tuple #[Value.agg #[Value.int IntKind.i64 ↑l.fst, Value.slice ra l.snd.length rc], Value.bool true], Value.agg #[Value.slice a g.length c], Value.int IntKind.i64 ↑k, Value.tuple #[Value.agg #[Value.int IntKind.i64 ↑l.fst, Value.slice ra l.snd.length rc], Value.bool true], Value.agg #[Value.int IntKind.i64 ↑l.fst, Value.slice ra l.snd.length rc], Value.bool true, Value.bool true, Value.bool false, Value.agg #[Value.slice a g.length c], Value.func (Fn.func 92) #[] #[Value.pointer (some { block := w1.heap.size + 1 + 1, off := 0 })], .int .i64 (x.1.1 : Int), .int .i64 (x.1.2 : Int), undef, undef, undef, undef, undef, undef, undef, undef, undef, undef, undef, undef, undef, undef, undef, undef, undef, undef], defers := [] }) ?assign ?body ?done ?stop
  case assign =>
    intro l x W K hK
    gi_wp2
    exact hK
  case body =>
    rintro lv T pre x V hT ⟨⟨oa, oc, zs, h1, h2, h3⟩, h4, h5, h6⟩ hlen
    have hzl : zs.length ≤ 1000 := by
      have := congrArg List.length h3
      rw [lists_length] at this
      simp only [pairsL, List.length_map] at this
      have h8 := List.length_filter_le (outB l.2) (pre.map (·.1))
      rw [List.length_map] at h8
      omega
    have HF : Hid ((((pre ++ [x]).map (·.1)).filter (outB l.2)) = ((pre.map (·.1)).filter (outB l.2)) ++ [x.1].filter (outB l.2)) := by show _ = _; rw [List.map_append, List.filter_append]; rfl
    have H1 := hid (HH.out V h4 x.1.1)
    have cV := HR1.out V h4
    -- nothing is written
    have SAME : Hid (∀ Z, Below V.heap.size V Z → [x.1].filter (outB l.2) = [] → KeepsOthers V Z ∧ Stay (fun k => k < X.heap.size ∧ k ≠ w1.heap.size + 1) X.heap.size T V Z ∧ ((∃ oa oc zs, Boxed Z (w1.heap.size + 1) 22 (.slice oa zs.length oc) ∧ Made Z T [] (.slice oa zs.length oc) zs ∧ lists zs = pairsL (((pre ++ [x]).map (·.1)).filter (outB l.2))) ∧ Below Y.heap.size Y Z ∧ T ≤ Z.heap.size ∧ X.heap.size ≤ T)) := fun Z hZ he => ⟨keeps_below hZ, ⟨hZ.mono (Nat.zero_le _), fun k hk => hZ.block k (by omega)⟩, ⟨oa, oc, zs, boxed_below h1 hZ, Made.below h2 hZ, by rw [HF.out, he, List.append_nil]; exact h3⟩, h4.trans (hZ.mono h4.size), Nat.le_trans h5 hZ.size, h6⟩
    by_cases hf : x.1.1 ∈ l.2
    · rw [decide_eq_true hf] at H1
      by_cases ht : x.1.2 ∈ l.2
      · have H2 := hid (fun W hb => HH.out W hb x.1.2)
        rw [decide_eq_true ht] at H2
        have HE : Hid ([x.1].filter (outB l.2) = []) := by show _ = _; simp [outB, ht]
        clear h1 h2 h3
        gi_wp2_with fail
        refine ⟨trivial, ?_⟩
        gi_at_call 58
        refine (CallsIn.inRound lv (callsIn_wide.2 H1.out)).mono ?_
        rintro e Z ⟨rfl, hZ⟩
        have B1 := h4.trans (hZ.mono h4.size)
        have cZ := HR1.out _ B1
        have H3 := hid (H2.out _ B1)
        clear H1 H2 cV
        gi_wp2_with fail
        refine ⟨trivial, ?_⟩
        gi_at_call 58
        refine (CallsIn.inRound lv (callsIn_wide.2 H3.out)).mono ?_
        rintro e Z2 ⟨rfl, hZ2⟩
        gi_wp2
        exact SAME.out Z2 (bstep' hZ hZ2) HE.out
      · have H2 := hid (fun W hb => HH.out W hb x.1.2)
        rw [decide_eq_false ht] at H2
        have HE : Hid ([x.1].filter (outB l.2) = [x.1]) := by show _ = _; simp [outB, hf, ht]
        have HQ := hid (And.intro h1 (And.intro h2 h3))
        clear h1 h2 h3 SAME
        gi_wp2_with fail
        refine ⟨trivial, ?_⟩
        gi_at_call 58
        refine (CallsIn.inRound lv (callsIn_wide.2 H1.out)).mono ?_
        rintro e Z ⟨rfl, hZ⟩
        have B1 := h4.trans (hZ.mono h4.size)
        have cZ := HR1.out _ B1
        have H3 := hid (H2.out _ B1)
        clear H1 H2 cV
        gi_wp2_with fail
        refine ⟨trivial, ?_⟩
        gi_at_call 58
        refine (CallsIn.inRound lv (callsIn_wide.2 H3.out)).mono ?_
        rintro e Z2 ⟨rfl, hZ2⟩
        have hVZ := bstep' hZ hZ2
        have hx1 := boxed_below HQ.out.1 hVZ
        have hx2 := Made.below HQ.out.2.1 hVZ
        have hx5 : T ≤ Z2.heap.size := Nat.le_trans h5 hVZ.size
        have c1 := hx1.cell
        obtain ⟨A1, hA1⟩ : ∃ A1, Z2.alloc (.cells #[.int .i64 (x.1.1 : Int), .int .i64 (x.1.2 : Int)] 3) = A1 := ⟨_, rfl⟩
        obtain ⟨A2, hA2⟩ : ∃ A2, A1.alloc (.cells #[.slice (some ⟨Z2.heap.size, 0, none⟩) 2 2] 42) = A2 := ⟨_, rfl⟩
        have bA1 : Below Z2.heap.size Z2 A1 := by rw [← hA1]; exact below1 _ _
        have zA1 : A1.heap.size = Z2.heap.size + 1 := by rw [← hA1]; simp
        have bA2 : Below A1.heap.size A1 A2 := by rw [← hA2]; exact below1 _ _
        have bZA : Below Z2.heap.size Z2 A2 := bstep' bA1 bA2
        have bVA : Below V.heap.size V A2 := bstep' hVZ bZA
        have hpo : A1.ownsRow Z2.heap.size 3 1 (.slice (some ⟨Z2.heap.size, 0, none⟩) 2 2) [(x.1.1 : Int), (x.1.2 : Int)].length (ints [(x.1.1 : Int), (x.1.2 : Int)]) := by rw [← hA1]; exact pair_own Z2 _ _
        have HM3 := hid ((Made.with hx2 bA1 hx5 ⟨[(x.1.1 : Int), (x.1.2 : Int)], .slice (some ⟨Z2.heap.size, 0, none⟩) 2 2⟩ hpo).below bA2)
        have HN1 : Hid (News A2 (some ⟨Z2.heap.size + 1, 0, none⟩) 1 1 [.slice (some ⟨Z2.heap.size, 0, none⟩) 2 2]) := by
          rw [← hA2]
          exact News.one A1 _ 42 _ zA1 rfl
        have hb1 := boxed_below hx1 bZA
        have hvk : ∀ k, (Value.slice oa zs.length oc).ownBlock = some k → (T ≤ k ∧ ∃ c' fz, A2.heap[k]? = some (.cells c' 42 fz)) := fun k hk => by
          have ho := hx2.1 ⟨42, 1, .slice oa zs.length oc, zs.length, vals zs⟩ (by simp)
          refine ⟨(ho.lt k hk).1, own_kind (owns_below ho bZA) hk⟩
        have HVK := hid hvk
        have zA2 : T ≤ A2.heap.size := Nat.le_trans h5 bVA.size
        clear hx1 hx2 bA1 bA2 hpo hvk hZ hZ2 H3 cZ
        gi_wp2_with (gi_at_builtin; refine wpListIn_append_sep eltLists rfl _ _ rfl T [] HM3.out rfl HN1.out rfl (by omega) zA2 ?_; intro va2 vc2 w5 hs2 hb2 hg2 hn2; have hb5 := hb1.kept hg2 (fun e => by have := (HVK.out _ e.symm).1; omega); have c5 := hb5.cell; have f5 := hb5.frozen)
        have HM4 : Made w5 T [] (.slice va2 (zs.length + 1) vc2) (zs ++ [⟨[(x.1.1 : Int), (x.1.2 : Int)], .slice (some ⟨Z2.heap.size, 0, none⟩) 2 2⟩]) := Made.grown (n := 0) (by simpa using hs2)
        have hfar2 : ∀ k, ((k < X.heap.size ∧ k ≠ w1.heap.size + 1) ∨ (X.heap.size ≤ k ∧ k < T)) → (w5.setCell ⟨w1.heap.size + 1, 0, none⟩ (.slice va2 (zs.length + 1) vc2)).heap[k]? = V.heap[k]? := fun k hk => by
          have hkV : k < V.heap.size := by omega
          have hkA : k < A2.heap.size := Nat.lt_of_lt_of_le hkV bVA.size
          rw [Below.heap_setCell _ _ _ _ (show k ≠ w1.heap.size + 1 by omega), hg2.block k hkA (fun e => by have := (HVK.out _ e.symm).1; omega), bVA.block k hkV]
        have B5 : Below Y.heap.size Y w5 := (h4.trans (bVA.mono h4.size)).grown hg2 (Nat.le_trans h4.size bVA.size) (fun k e => by have := (HVK.out k e).1; omega)
        have s5 : V.heap.size ≤ w5.heap.size := Nat.le_trans bVA.size hg2.size
        refine ⟨((keeps_below bVA).trans (KeepsOthers.of_grownBy hg2 (fun j o e ho => by obtain ⟨c', fz, hc⟩ := (HVK.out j e).2; rw [hc] at ho; cases ho; rfl))).trans (KeepsOthers.setCell _ _ _), ⟨((bVA.mono (Nat.zero_le _)).grown hg2 (Nat.zero_le _) (fun k e => Nat.zero_le _)).setCell (Nat.zero_le _) _, hfar2⟩, ⟨va2, vc2, zs ++ [⟨[(x.1.1 : Int), (x.1.2 : Int)], .slice (some ⟨Z2.heap.size, 0, none⟩) 2 2⟩], ?_, ?_, ?_⟩, B5.setCell (by show Y.heap.size ≤ w1.heap.size + 1; omega) _, Nat.le_trans h5 (by simp [World.setCell]; exact s5), h6⟩
        · rw [List.length_append]
          exact hb5.set _
        · rw [List.length_append]
          exact (Only.setCell w5 (w1.heap.size + 1) 0 _).sep HM4 (fun y hy k hk e => by have := (Sep.size HM4 hy hk).1; omega)
        · rw [HF.out, HE.out]
          rw [pairsL_snoc, ← HQ.out.2.2]
          simp [lists]
    · rw [decide_eq_false hf] at H1
      have HE : Hid ([x.1].filter (outB l.2) = []) := by show _ = _; simp [outB, hf]
      clear h1 h2 h3
      gi_wp2_with (refine ⟨trivial, ?_⟩; gi_at_call 58; refine (CallsIn.inRound lv (callsIn_wide.2 H1.out)).mono ?_; rintro e Z ⟨rfl, hZ⟩)
      refine ⟨trivial, ?_⟩
      gi_wp2
      exact SAME.out Z hZ HE.out
  case done =>
    rintro Dd T xs V hDd hS2 ⟨⟨oa, oc, zs, h1, h2, h3⟩, h4, h5, h6⟩ hK
    have c1 := h1.cell
    gi_wp2
    refine ⟨by simp, .inl ⟨_, _, rfl, run_takeDeferred hK, ?_⟩⟩
    exact ⟨.tuple #[.slice oa zs.length oc, .bool true], by simp [results, Try.results31, go_sem], _, zs, rfl, Sep.mono (Sep.calm h2 (grownBy_putObj' V Dd _) (fun r e => by cases e; exact ⟨_, hK, rfl⟩)) (by have := BX.size; omega), by rw [h3, hS2], (BY.trans (h4.mono BY.size)).trans (belowK_b (w := w) (Nat.le_refl _) _ Dd _ _ (by have := BX.size; omega) hK rfl rfl)⟩
  case stop =>
    rintro D c pre W _ _ h _
    exact h.elim
end Go.Proofs.Ythcenlplfcbfjaa

