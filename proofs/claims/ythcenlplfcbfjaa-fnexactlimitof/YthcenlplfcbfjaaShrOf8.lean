/- The graph that becomes smaller, as it begins. -/
import Derived.Test.YthcenlplfcbfjaaShrink8
import Derived.Deep.RegionHeld
namespace Go.Proofs.Ythcenlplfcbfjaa
open Go Go.RowKit Go.Shelf
attribute [local go_sem] Oper.semAt_some
set_option linter.unusedVariables false
set_option linter.unusedSimpArgs false
set_option maxRecDepth 100000

/-- rows of sets: where one has gone so far -/
def Went (n : Nat) (es : List (Nat × Nat)) (N : List (List Nat)) : Prop := N.length = n ∧ ∀ (k : Nat) r, N[k]? = some r → r.Pairwise (· < ·) ∧ ∀ x, x ∈ r ↔ (k, x) ∈ es
theorem Went.begin (n : Nat) : Went n [] (List.replicate n []) := by
  refine ⟨by simp, fun k r hr => ?_⟩
  obtain rfl : r = [] := List.eq_of_mem_replicate (List.mem_of_getElem? hr)
  exact ⟨List.Pairwise.nil, fun x => by simp⟩
theorem Went.add {n : Nat} {es : List (Nat × Nat)} {N : List (List Nat)} (h : Went n es N) {u v : Nat} {r : List Nat} (hr : N[u]? = some r) : Went n (es ++ [(u, v)]) (N.set u (putL r v)) := by
  have hv := (List.getElem?_eq_some_iff.1 hr).1
  refine ⟨by simp [h.1], fun k s hs => ?_⟩
  by_cases e : k = u
  · subst e
    rw [List.getElem?_set_self hv] at hs
    obtain rfl := Option.some.inj hs
    refine ⟨putL_rising (h.2 k r hr).1 v, fun x => ?_⟩
    rw [putL_mem, (h.2 k r hr).2 x]
    simp
    exact or_comm
  · rw [List.getElem?_set_ne (fun h => e h.symm)] at hs
    refine ⟨(h.2 k s hs).1, fun x => ?_⟩
    rw [(h.2 k s hs).2 x]
    simp [e]
theorem region_plainL {P : Program} {id : Nat} {ops : Array Oper} {Q : Exit → Act → World → Prop} {a : Act} {w : World} (hm : P.follows .mixedOrders = true) (h : wpAny P .any ops Q ops.size (Array.replicate ops.size false) a w.drew) : (Code.region id ops true).wp P Q a w := wp_region_any hm h
theorem made_nil (n : Nat) : (madeCells #[Value.slice none 0 0] n).toList = vals (noLists n) := made_lists n
theorem made_own {V : World} {B n : Nat} (hB : B ≤ V.heap.size) (hn : n ≤ 12) : (V.alloc (.cells (madeCells #[.slice none 0 0] n) 54)).ownsRow B 54 1 (.slice (some ⟨V.heap.size, 0, none⟩) n n) n (vals (noLists n)) := by
  have hl : (madeCells #[Value.slice none 0 0] n).toList.length = n := by rw [made_nil]; simp [vals, noLists]
  refine ⟨by simp [vals, noLists], .inr ⟨V.heap.size, n, madeCells #[.slice none 0 0] n, rfl, hB, heap_alloc_new _ _, Nat.le_refl _, by unfold maxLen; omega, by rw [← Array.length_toList, hl]; omega, ?_⟩⟩
  rw [made_nil]
  exact List.take_of_length_le (by simp [vals, noLists])
theorem two_cells {V : World} {b : Nat} (h : V.heap[b]? = some (.cells #[.slice none 0 0, .slice none 0 0] 57)) : V.cell? ⟨b, 0, none⟩ = some (.slice none 0 0) ∧ V.cell? ⟨b, 1, none⟩ = some (.slice none 0 0) ∧ V.frozen? ⟨b, 0, none⟩ = false ∧ V.frozen? ⟨b, 1, none⟩ = false := by
  have ho := cell_own (B := 0) (size := 2) h rfl (Nat.zero_le _)
  exact ⟨rowT_at ho rfl rfl, rowT_at ho rfl rfl, rowT_frz ho rfl 0, rowT_frz ho rfl 1⟩
/-- the graph as it begins, in each order -/
def ShrStart (g : List (List Nat)) (A wx : World) (t3 : Value) : Prop := ∃ tb pb nv, t3 = .pointer (some ⟨tb, 0, none⟩) ∧ Sep wx A.heap.size (rowsShr tb pb g.length g.length nv (setL (order7 g)) (noLists g.length)) ∧ Below A.heap.size A wx
theorem noLists_vals (n : Nat) : ∀ y ∈ noLists n, y = ⟨[], .slice none 0 0⟩ := fun y hy => List.eq_of_mem_replicate hy
def rowsShr0 (tb pb n : Nat) (u v nv : Value) (ns : List Nat) (ys : List LV) : List OR := [] ++ cellOR 57 2 tb [u, v] :: (⟨3, 1, nv, ns.length, ints (nats ns)⟩ :: ⟨54, 1, .slice (some ⟨pb, 0, none⟩) n n, n, vals ys⟩ :: ys.map rowL)
theorem make_sets (n : Nat) (h : n ≤ 12) : ∀ W : World, (Instr.makeSlice 55 (.int .i64 n) (.int .i64 n)).run Try.prog W = .ok (.slice (some ⟨W.heap.size, 0, none⟩) n n) (W.alloc (.cells (madeCells #[.slice none 0 0] n) 54)) := fun W => by
  obtain ⟨i0, hi, hz0, hz1, hz2⟩ := info_parts info58
  have := run_make (P := Try.prog) W 55 54 i0 (.agg #[.slice none 0 0]) Try.underlying55 hi hz0 .i64 .i64 n n (by omega) (by omega) (by rw [hz2]; omega) (by omega)
  rw [hz1] at this
  simpa [Value.cells] using this
theorem shrof_leaf {g : List (List Nat)} {A F : World} {tb pb nc : Nat} {na : Option Addr} (on : F.ownsRow A.heap.size 3 1 (.slice na (setL (order7 g)).length nc) (setL (order7 g)).length (ints (nats (setL (order7 g))))) (om : F.ownsRow A.heap.size 54 1 (.slice (some ⟨pb, 0, none⟩) g.length g.length) g.length (vals (noLists g.length))) (bx : F.heap[tb]? = some (.cells #[.slice none 0 0, .slice none 0 0] 57)) (hB : Below A.heap.size A F) (hb : ∀ b, (Value.slice na (setL (order7 g)).length nc).ownBlock = some b → b ≠ tb ∧ b ≠ pb) (hne : tb ≠ pb ∧ A.heap.size ≤ tb) :
    ShrStart g A ((F.setCell ⟨tb, 0, none⟩ (.slice na (setL (order7 g)).length nc)).setCell ⟨tb, 1, none⟩ (.slice (some ⟨pb, 0, none⟩) g.length g.length)) (.pointer (some ⟨tb, 0, none⟩)) := by
  have h0 : Sep F A.heap.size (rowsShr0 tb pb g.length (.slice none 0 0) (.slice none 0 0) (.slice na (setL (order7 g)).length nc) (setL (order7 g)) (noLists g.length)) := by
    refine ⟨fun x hx => ?_, ?_⟩
    · unfold rowsShr0 at hx
      rcases List.mem_cons.1 hx with rfl | hx
      · exact cell_own bx rfl hne.2
      · rcases List.mem_cons.1 hx with rfl | hx
        · exact on
        · rcases List.mem_cons.1 hx with rfl | hx
          · exact om
          · obtain ⟨y, hy, rfl⟩ := List.mem_map.1 hx
            rw [noLists_vals _ y hy]
            exact World.ownsRow_nil _ _ _ _
    · unfold rowsShr0
      have hN : ∀ x ∈ (noLists g.length).map rowL, x.v.ownBlock = none := fun x hx => by
        obtain ⟨y, hy, rfl⟩ := List.mem_map.1 hx
        rw [noLists_vals _ y hy]; rfl
      refine List.pairwise_cons.2 ⟨fun x hx => ?_, List.pairwise_cons.2 ⟨fun x hx => ?_, List.pairwise_cons.2 ⟨fun x hx => ?_, ?_⟩⟩⟩
      · rcases List.mem_cons.1 hx with rfl | hx
        · exact apt.symm (by
            cases hv : (Value.slice na (setL (order7 g)).length nc).ownBlock with
            | none => exact .inl hv
            | some b => exact .inr (fun e => by simp only [] at e; rw [hv] at e; cases e; exact (hb _ hv).1 rfl))
        · rcases List.mem_cons.1 hx with rfl | hx
          · exact .inr (fun e => by cases e; exact hne.1 rfl)
          · exact apt.symm (.inl (hN x hx))
      · rcases List.mem_cons.1 hx with rfl | hx
        · cases hv : (Value.slice na (setL (order7 g)).length nc).ownBlock with
          | none => exact .inl hv
          | some b => exact .inr (fun e => by simp only [] at e; rw [hv] at e; cases e; exact (hb _ hv).2 rfl)
        · exact apt.symm (.inl (hN x hx))
      · exact apt.symm (.inl (hN x hx))
      · exact List.pairwise_map.2 (List.Pairwise.imp_of_mem (R := fun _ _ => True) (fun {x y} hx hy _ => .inl (hN _ (List.mem_map_of_mem hx))) (List.pairwise_of_forall (fun _ _ => trivial)))
  have h1 := Sep.put [] h0 0 (.slice na (setL (order7 g)).length nc)
  have h2 := Sep.put [] h1.1 1 (.slice (some ⟨pb, 0, none⟩) g.length g.length)
  exact ⟨tb, pb, _, rfl, h2.1, (hB.setCell hne.2 _).setCell hne.2 _⟩
set_option maxHeartbeats 4000000 in
theorem shrinkingOf_any {g : List (List Nat)} (G : Gr g) (a : Option Addr) (c : Nat) (w : World) (h : GRow w a g) :
    Calls Try.prog 46 #[.agg #[.slice a g.length c]] w fun e w' => ∃ nv pb N ys, e = .returned (.agg #[nv, .slice (some ⟨pb, 0, none⟩) g.length g.length]) ∧ Sep w' w.heap.size (⟨3, 1, nv, (setL (order7 g)).length, ints (nats (setL (order7 g)))⟩ :: ⟨54, 1, .slice (some ⟨pb, 0, none⟩) g.length g.length, g.length, vals ys⟩ :: ys.map rowL) ∧ lists ys = natsL N ∧ Went g.length (edgesL g) N ∧ Below w.heap.size w w' := by
  obtain ⟨i0, hi, hz0, hz1, hz2⟩ := info_parts info58
  have hgm := G.most
  have b2 := below2 w (.cells #[.slice a g.length c] 28) (.cells #[.slice none 0 0, .slice none 0 0] 57)
  have d0 : ((w.alloc (.cells #[.slice a g.length c] 28)).alloc (.cells #[.slice none 0 0, .slice none 0 0] 57)).cell? ⟨w.heap.size, 0, none⟩ = some (.slice a g.length c) := ((Boxed.new w 28 (.slice a g.length c)).alloc _).cell
  have HN := hid (fun W (hb : Below w.heap.size w W) => nodesIn_any G a c W (LRow.below h hb) (by have := (dfs_len G).1; omega))
  have H := hid h
  clear h
  refine (callsIn_wide (n := 8)).1 ?_
  refine callsIn_of_wp_marks Try.func46 rfl trivial (wpIn_wide.2 (wp_mono ?_ calm_le)) rfl
  simp only [Try.ntmps46, List.size_toArray, List.length_cons, List.length_nil, Nat.reduceAdd, Nat.reduceSub, Array.replicate_succ, Array.replicate_zero, List.push_toArray, List.append_toArray, List.nil_append, List.cons_append]
  obtain ⟨A, hA⟩ : ∃ A, (w.alloc (.cells #[.slice a g.length c] 28)).alloc (.cells #[.slice none 0 0, .slice none 0 0] 57) = A := ⟨_, rfl⟩
  have zA : A.heap.size = w.heap.size + 2 := by rw [← hA]; simp
  have xt : A.heap[w.heap.size + 1]? = some (.cells #[.slice none 0 0, .slice none 0 0] 57) := by
    rw [← hA]
    have := heap_alloc_new (w.alloc (.cells #[.slice a g.length c] 28)) (.cells #[.slice none 0 0, .slice none 0 0] 57)
    rw [World.size_alloc] at this
    exact this
  have bA : Below w.heap.size w A := by rw [← hA]; exact b2
  have dA : A.cell? ⟨w.heap.size, 0, none⟩ = some (.slice a g.length c) := by rw [← hA]; exact d0
  have HD := hid (fun W (hb : Below A.heap.size A W) => cell_below dA hb)
  have HMK := hid (make_sets g.length hgm)
  go_upto_region 1 with fail
  try rw [hA]
  have HZA := hid (And.intro zA xt)
  clear hA b2 d0 zA xt
  go_cut [3] from 6 to 12 (fun t3 wx => ShrStart g A wx t3)
  case first =>
    refine region_plainL (by kernel_rfl) ?_
    obtain ⟨W1, hW1⟩ : ∃ W1, A.drew = W1 := ⟨_, rfl⟩
    rw [hW1]
    have hB0 : Below A.heap.size A W1 := by rw [← hW1]; exact bdr (Below.refl _ A)
    have zB0 : A.heap.size ≤ W1.heap.size := hB0.size
    clear hW1
    have c0 := HD.out _ hB0
    refine wpAny_take (i := 2) (v := ?_) rfl (by kernel_rfl) (by kernel_rfl) (by kernel_rfl) (fun _ _ _ h => h) (Or.inl ⟨by kernel_rfl, ?_⟩) ?_
    rotate_left
    focus (intro w; go_simp; first | done | with_reducible rfl)
    try go_simp
    refine wpAny_ready (rs := [0, 3, 7]) (by kernel_rfl) (by simp) ?_
    refine AllReady.cons rfl (fun K hK => ?_) ?_
    · go_simp
      refine hK _ _ ?_
      try clear hK K
      refine wpAny_ready (rs := [1, 3, 7]) (by kernel_rfl) (by simp) ?_
      refine AllReady.cons rfl (fun K hK => ?_) ?_
      · go_simp
        go_wp2_with (go_at_call 80; refine (HN.out _ (bA.trans (hB0.mono bA.size))).mono ?_; rintro e V2 ⟨na, nc, rfl, on2', hb2⟩; have hB2 : Below A.heap.size A V2 := bstep hB0 hB0.size hb2; have c2 := HD.out _ hB2; have bn2 : ∀ b, (Value.slice na (setL (order7 g)).length nc).ownBlock = some b → W1.heap.size ≤ b ∧ b < V2.heap.size := fun b hb => on2'.lt b hb; have z2 := hb2.size; have on2 := owns_mono on2' hB0.size)
        try (refine hK _ _ ?_)
        try clear hK K
        refine wpAny_ready (rs := [3, 7]) (by kernel_rfl) (by simp) ?_
        refine AllReady.cons rfl (fun K hK => ?_) ?_
        · go_simp
          refine hK _ _ ?_
          try clear hK K
          refine wpAny_take (i := 4) (v := ?_) rfl (by kernel_rfl) (by kernel_rfl) (by kernel_rfl) (fun _ _ _ h => h) (Or.inl ⟨by kernel_rfl, ?_⟩) ?_
          rotate_left
          focus (intro w; go_simp; first | done | with_reducible rfl)
          try go_simp
          refine wpAny_ready (rs := [5, 7]) (by kernel_rfl) (by simp) ?_
          refine AllReady.cons rfl (fun K hK => ?_) ?_
          · have mk := HMK.out V2
            go_simp
            refine hK _ _ ?_
            try clear hK K
            obtain ⟨V4, hV4⟩ : ∃ V4, World.alloc V2 (.cells (madeCells #[.slice none 0 0] g.length) 54) = V4 := ⟨_, rfl⟩
            try rw [hV4]
            have hB4 : Below A.heap.size A V4 := by rw [← hV4]; exact hB2.alloc hB2.size _
            have c4 := HD.out _ hB4
            have z4 : V2.heap.size < V4.heap.size := by rw [← hV4]; simp
            have om4 : V4.ownsRow A.heap.size 54 1 (.slice (some ⟨V2.heap.size, 0, none⟩) g.length g.length) g.length (vals (noLists g.length)) := by rw [← hV4]; exact made_own hB2.size hgm
            have on4 := owns_below on2 (below1 V2 (.cells (madeCells #[.slice none 0 0] g.length) 54))
            rw [hV4] at on4
            clear hV4
            refine wpAny_take (i := 6) (v := ?_) rfl (by kernel_rfl) (by kernel_rfl) (by kernel_rfl) (fun _ _ _ h => h) (Or.inl ⟨by kernel_rfl, ?_⟩) ?_
            rotate_left
            focus (intro w; go_simp; first | done | with_reducible rfl)
            try go_simp
            refine wpAny_ready (rs := [7]) (by kernel_rfl) (by simp) ?_
            refine AllReady.cons rfl (fun K hK => ?_) ?_
            · go_simp
              refine hK _ _ ?_
              try clear hK K
              obtain ⟨V5, hV5⟩ : ∃ V5, World.alloc V4 (.cells #[.slice none 0 0, .slice none 0 0] 57) = V5 := ⟨_, rfl⟩
              try rw [hV5]
              have hB5 : Below A.heap.size A V5 := by rw [← hV5]; exact hB4.alloc hB4.size _
              have c5 := HD.out _ hB5
              have z5 : V4.heap.size < V5.heap.size := by rw [← hV5]; simp
              have om5 := owns_below om4 (below1 V4 (.cells #[.slice none 0 0, .slice none 0 0] 57))
              rw [hV5] at om5
              have bx5 : V5.heap[V4.heap.size]? = some (.cells #[.slice none 0 0, .slice none 0 0] 57) := by rw [← hV5]; exact heap_alloc_new _ _
              have on5 := owns_below on4 (below1 V4 (.cells #[.slice none 0 0, .slice none 0 0] 57))
              rw [hV5] at on5
              clear hV5
              refine wpAny_ready (rs := [8]) (by kernel_rfl) (by simp) ?_
              refine AllReady.cons rfl (fun K hK => ?_) ?_
              · obtain ⟨cb6, cc6, fb6, fc6⟩ := two_cells bx5
                go_simp
                refine hK _ _ ?_
                try clear hK K
                refine wpAny_done (by kernel_rfl) ?_ _
                go_wp2_with fail
                go_meet
                exact shrof_leaf on5 om5 bx5 hB5 (fun b hb => by have := bn2 b hb; omega) (by omega)
              exact AllReady.nil
            exact AllReady.nil
          refine AllReady.cons rfl (fun K hK => ?_) ?_
          · go_simp
            refine hK _ _ ?_
            try clear hK K
            obtain ⟨V7, hV7⟩ : ∃ V7, World.alloc V2 (.cells #[.slice none 0 0, .slice none 0 0] 57) = V7 := ⟨_, rfl⟩
            try rw [hV7]
            have hB7 : Below A.heap.size A V7 := by rw [← hV7]; exact hB2.alloc hB2.size _
            have c7 := HD.out _ hB7
            have z7 : V2.heap.size < V7.heap.size := by rw [← hV7]; simp
            have bx7 : V7.heap[V2.heap.size]? = some (.cells #[.slice none 0 0, .slice none 0 0] 57) := by rw [← hV7]; exact heap_alloc_new _ _
            have on7 := owns_below on2 (below1 V2 (.cells #[.slice none 0 0, .slice none 0 0] 57))
            rw [hV7] at on7
            clear hV7
            refine wpAny_ready (rs := [5]) (by kernel_rfl) (by simp) ?_
            refine AllReady.cons rfl (fun K hK => ?_) ?_
            · have mk := HMK.out V7
              go_simp
              refine hK _ _ ?_
              try clear hK K
              obtain ⟨V8, hV8⟩ : ∃ V8, World.alloc V7 (.cells (madeCells #[.slice none 0 0] g.length) 54) = V8 := ⟨_, rfl⟩
              try rw [hV8]
              have hB8 : Below A.heap.size A V8 := by rw [← hV8]; exact hB7.alloc hB7.size _
              have c8 := HD.out _ hB8
              have z8 : V7.heap.size < V8.heap.size := by rw [← hV8]; simp
              have om8 : V8.ownsRow A.heap.size 54 1 (.slice (some ⟨V7.heap.size, 0, none⟩) g.length g.length) g.length (vals (noLists g.length)) := by rw [← hV8]; exact made_own hB7.size hgm
              have bx8 := ((below1 V7 (.cells (madeCells #[.slice none 0 0] g.length) 54)).block _ (Array.getElem?_eq_some_iff.1 bx7).1).trans bx7
              rw [hV8] at bx8
              have on8 := owns_below on7 (below1 V7 (.cells (madeCells #[.slice none 0 0] g.length) 54))
              rw [hV8] at on8
              clear hV8
              refine wpAny_take (i := 6) (v := ?_) rfl (by kernel_rfl) (by kernel_rfl) (by kernel_rfl) (fun _ _ _ h => h) (Or.inl ⟨by kernel_rfl, ?_⟩) ?_
              rotate_left
              focus (intro w; go_simp; first | done | with_reducible rfl)
              try go_simp
              refine wpAny_ready (rs := [8]) (by kernel_rfl) (by simp) ?_
              refine AllReady.cons rfl (fun K hK => ?_) ?_
              · obtain ⟨cb9, cc9, fb9, fc9⟩ := two_cells bx8
                go_simp
                refine hK _ _ ?_
                try clear hK K
                refine wpAny_done (by kernel_rfl) ?_ _
                go_wp2_with fail
                go_meet
                exact shrof_leaf on8 om8 bx8 hB8 (fun b hb => by have := bn2 b hb; omega) (by omega)
              exact AllReady.nil
            exact AllReady.nil
          exact AllReady.nil
        refine AllReady.cons rfl (fun K hK => ?_) ?_
        · go_simp
          refine hK _ _ ?_
          try clear hK K
          obtain ⟨V10, hV10⟩ : ∃ V10, World.alloc V2 (.cells #[.slice none 0 0, .slice none 0 0] 57) = V10 := ⟨_, rfl⟩
          try rw [hV10]
          have hB10 : Below A.heap.size A V10 := by rw [← hV10]; exact hB2.alloc hB2.size _
          have c10 := HD.out _ hB10
          have z10 : V2.heap.size < V10.heap.size := by rw [← hV10]; simp
          have bx10 : V10.heap[V2.heap.size]? = some (.cells #[.slice none 0 0, .slice none 0 0] 57) := by rw [← hV10]; exact heap_alloc_new _ _
          have on10 := owns_below on2 (below1 V2 (.cells #[.slice none 0 0, .slice none 0 0] 57))
          rw [hV10] at on10
          clear hV10
          refine wpAny_ready (rs := [3]) (by kernel_rfl) (by simp) ?_
          refine AllReady.cons rfl (fun K hK => ?_) ?_
          · go_simp
            refine hK _ _ ?_
            try clear hK K
            refine wpAny_take (i := 4) (v := ?_) rfl (by kernel_rfl) (by kernel_rfl) (by kernel_rfl) (fun _ _ _ h => h) (Or.inl ⟨by kernel_rfl, ?_⟩) ?_
            rotate_left
            focus (intro w; go_simp; first | done | with_reducible rfl)
            try go_simp
            refine wpAny_ready (rs := [5]) (by kernel_rfl) (by simp) ?_
            refine AllReady.cons rfl (fun K hK => ?_) ?_
            · have mk := HMK.out V10
              go_simp
              refine hK _ _ ?_
              try clear hK K
              obtain ⟨V12, hV12⟩ : ∃ V12, World.alloc V10 (.cells (madeCells #[.slice none 0 0] g.length) 54) = V12 := ⟨_, rfl⟩
              try rw [hV12]
              have hB12 : Below A.heap.size A V12 := by rw [← hV12]; exact hB10.alloc hB10.size _
              have c12 := HD.out _ hB12
              have z12 : V10.heap.size < V12.heap.size := by rw [← hV12]; simp
              have om12 : V12.ownsRow A.heap.size 54 1 (.slice (some ⟨V10.heap.size, 0, none⟩) g.length g.length) g.length (vals (noLists g.length)) := by rw [← hV12]; exact made_own hB10.size hgm
              have bx12 := ((below1 V10 (.cells (madeCells #[.slice none 0 0] g.length) 54)).block _ (Array.getElem?_eq_some_iff.1 bx10).1).trans bx10
              rw [hV12] at bx12
              have on12 := owns_below on10 (below1 V10 (.cells (madeCells #[.slice none 0 0] g.length) 54))
              rw [hV12] at on12
              clear hV12
              refine wpAny_take (i := 6) (v := ?_) rfl (by kernel_rfl) (by kernel_rfl) (by kernel_rfl) (fun _ _ _ h => h) (Or.inl ⟨by kernel_rfl, ?_⟩) ?_
              rotate_left
              focus (intro w; go_simp; first | done | with_reducible rfl)
              try go_simp
              refine wpAny_ready (rs := [8]) (by kernel_rfl) (by simp) ?_
              refine AllReady.cons rfl (fun K hK => ?_) ?_
              · obtain ⟨cb13, cc13, fb13, fc13⟩ := two_cells bx12
                go_simp
                refine hK _ _ ?_
                try clear hK K
                refine wpAny_done (by kernel_rfl) ?_ _
                go_wp2_with fail
                go_meet
                exact shrof_leaf on12 om12 bx12 hB12 (fun b hb => by have := bn2 b hb; omega) (by omega)
              exact AllReady.nil
            exact AllReady.nil
          exact AllReady.nil
        exact AllReady.nil
      refine AllReady.cons rfl (fun K hK => ?_) ?_
      · go_simp
        refine hK _ _ ?_
        try clear hK K
        refine wpAny_take (i := 4) (v := ?_) rfl (by kernel_rfl) (by kernel_rfl) (by kernel_rfl) (fun _ _ _ h => h) (Or.inl ⟨by kernel_rfl, ?_⟩) ?_
        rotate_left
        focus (intro w; go_simp; first | done | with_reducible rfl)
        try go_simp
        refine wpAny_ready (rs := [1, 5, 7]) (by kernel_rfl) (by simp) ?_
        refine AllReady.cons rfl (fun K hK => ?_) ?_
        · go_simp
          go_wp2_with (go_at_call 80; refine (HN.out _ (bA.trans (hB0.mono bA.size))).mono ?_; rintro e V15 ⟨na, nc, rfl, on15', hb15⟩; have hB15 : Below A.heap.size A V15 := bstep hB0 hB0.size hb15; have c15 := HD.out _ hB15; have bn15 : ∀ b, (Value.slice na (setL (order7 g)).length nc).ownBlock = some b → W1.heap.size ≤ b ∧ b < V15.heap.size := fun b hb => on15'.lt b hb; have z15 := hb15.size; have on15 := owns_mono on15' hB0.size)
          try (refine hK _ _ ?_)
          try clear hK K
          refine wpAny_ready (rs := [5, 7]) (by kernel_rfl) (by simp) ?_
          refine AllReady.cons rfl (fun K hK => ?_) ?_
          · have mk := HMK.out V15
            go_simp
            refine hK _ _ ?_
            try clear hK K
            obtain ⟨V16, hV16⟩ : ∃ V16, World.alloc V15 (.cells (madeCells #[.slice none 0 0] g.length) 54) = V16 := ⟨_, rfl⟩
            try rw [hV16]
            have hB16 : Below A.heap.size A V16 := by rw [← hV16]; exact hB15.alloc hB15.size _
            have c16 := HD.out _ hB16
            have z16 : V15.heap.size < V16.heap.size := by rw [← hV16]; simp
            have om16 : V16.ownsRow A.heap.size 54 1 (.slice (some ⟨V15.heap.size, 0, none⟩) g.length g.length) g.length (vals (noLists g.length)) := by rw [← hV16]; exact made_own hB15.size hgm
            have on16 := owns_below on15 (below1 V15 (.cells (madeCells #[.slice none 0 0] g.length) 54))
            rw [hV16] at on16
            clear hV16
            refine wpAny_take (i := 6) (v := ?_) rfl (by kernel_rfl) (by kernel_rfl) (by kernel_rfl) (fun _ _ _ h => h) (Or.inl ⟨by kernel_rfl, ?_⟩) ?_
            rotate_left
            focus (intro w; go_simp; first | done | with_reducible rfl)
            try go_simp
            refine wpAny_ready (rs := [7]) (by kernel_rfl) (by simp) ?_
            refine AllReady.cons rfl (fun K hK => ?_) ?_
            · go_simp
              refine hK _ _ ?_
              try clear hK K
              obtain ⟨V17, hV17⟩ : ∃ V17, World.alloc V16 (.cells #[.slice none 0 0, .slice none 0 0] 57) = V17 := ⟨_, rfl⟩
              try rw [hV17]
              have hB17 : Below A.heap.size A V17 := by rw [← hV17]; exact hB16.alloc hB16.size _
              have c17 := HD.out _ hB17
              have z17 : V16.heap.size < V17.heap.size := by rw [← hV17]; simp
              have om17 := owns_below om16 (below1 V16 (.cells #[.slice none 0 0, .slice none 0 0] 57))
              rw [hV17] at om17
              have bx17 : V17.heap[V16.heap.size]? = some (.cells #[.slice none 0 0, .slice none 0 0] 57) := by rw [← hV17]; exact heap_alloc_new _ _
              have on17 := owns_below on16 (below1 V16 (.cells #[.slice none 0 0, .slice none 0 0] 57))
              rw [hV17] at on17
              clear hV17
              refine wpAny_ready (rs := [8]) (by kernel_rfl) (by simp) ?_
              refine AllReady.cons rfl (fun K hK => ?_) ?_
              · obtain ⟨cb18, cc18, fb18, fc18⟩ := two_cells bx17
                go_simp
                refine hK _ _ ?_
                try clear hK K
                refine wpAny_done (by kernel_rfl) ?_ _
                go_wp2_with fail
                go_meet
                exact shrof_leaf on17 om17 bx17 hB17 (fun b hb => by have := bn15 b hb; omega) (by omega)
              exact AllReady.nil
            exact AllReady.nil
          refine AllReady.cons rfl (fun K hK => ?_) ?_
          · go_simp
            refine hK _ _ ?_
            try clear hK K
            obtain ⟨V19, hV19⟩ : ∃ V19, World.alloc V15 (.cells #[.slice none 0 0, .slice none 0 0] 57) = V19 := ⟨_, rfl⟩
            try rw [hV19]
            have hB19 : Below A.heap.size A V19 := by rw [← hV19]; exact hB15.alloc hB15.size _
            have c19 := HD.out _ hB19
            have z19 : V15.heap.size < V19.heap.size := by rw [← hV19]; simp
            have bx19 : V19.heap[V15.heap.size]? = some (.cells #[.slice none 0 0, .slice none 0 0] 57) := by rw [← hV19]; exact heap_alloc_new _ _
            have on19 := owns_below on15 (below1 V15 (.cells #[.slice none 0 0, .slice none 0 0] 57))
            rw [hV19] at on19
            clear hV19
            refine wpAny_ready (rs := [5]) (by kernel_rfl) (by simp) ?_
            refine AllReady.cons rfl (fun K hK => ?_) ?_
            · have mk := HMK.out V19
              go_simp
              refine hK _ _ ?_
              try clear hK K
              obtain ⟨V20, hV20⟩ : ∃ V20, World.alloc V19 (.cells (madeCells #[.slice none 0 0] g.length) 54) = V20 := ⟨_, rfl⟩
              try rw [hV20]
              have hB20 : Below A.heap.size A V20 := by rw [← hV20]; exact hB19.alloc hB19.size _
              have c20 := HD.out _ hB20
              have z20 : V19.heap.size < V20.heap.size := by rw [← hV20]; simp
              have om20 : V20.ownsRow A.heap.size 54 1 (.slice (some ⟨V19.heap.size, 0, none⟩) g.length g.length) g.length (vals (noLists g.length)) := by rw [← hV20]; exact made_own hB19.size hgm
              have bx20 := ((below1 V19 (.cells (madeCells #[.slice none 0 0] g.length) 54)).block _ (Array.getElem?_eq_some_iff.1 bx19).1).trans bx19
              rw [hV20] at bx20
              have on20 := owns_below on19 (below1 V19 (.cells (madeCells #[.slice none 0 0] g.length) 54))
              rw [hV20] at on20
              clear hV20
              refine wpAny_take (i := 6) (v := ?_) rfl (by kernel_rfl) (by kernel_rfl) (by kernel_rfl) (fun _ _ _ h => h) (Or.inl ⟨by kernel_rfl, ?_⟩) ?_
              rotate_left
              focus (intro w; go_simp; first | done | with_reducible rfl)
              try go_simp
              refine wpAny_ready (rs := [8]) (by kernel_rfl) (by simp) ?_
              refine AllReady.cons rfl (fun K hK => ?_) ?_
              · obtain ⟨cb21, cc21, fb21, fc21⟩ := two_cells bx20
                go_simp
                refine hK _ _ ?_
                try clear hK K
                refine wpAny_done (by kernel_rfl) ?_ _
                go_wp2_with fail
                go_meet
                exact shrof_leaf on20 om20 bx20 hB20 (fun b hb => by have := bn15 b hb; omega) (by omega)
              exact AllReady.nil
            exact AllReady.nil
          exact AllReady.nil
        refine AllReady.cons rfl (fun K hK => ?_) ?_
        · have mk := HMK.out W1
          go_simp
          refine hK _ _ ?_
          try clear hK K
          obtain ⟨V22, hV22⟩ : ∃ V22, World.alloc W1 (.cells (madeCells #[.slice none 0 0] g.length) 54) = V22 := ⟨_, rfl⟩
          try rw [hV22]
          have hB22 : Below A.heap.size A V22 := by rw [← hV22]; exact hB0.alloc hB0.size _
          have c22 := HD.out _ hB22
          have z22 : W1.heap.size < V22.heap.size := by rw [← hV22]; simp
          have om22 : V22.ownsRow A.heap.size 54 1 (.slice (some ⟨W1.heap.size, 0, none⟩) g.length g.length) g.length (vals (noLists g.length)) := by rw [← hV22]; exact made_own hB0.size hgm
          clear hV22
          refine wpAny_ready (rs := [1, 7]) (by kernel_rfl) (by simp) ?_
          refine AllReady.cons rfl (fun K hK => ?_) ?_
          · go_simp
            go_wp2_with (go_at_call 80; refine (HN.out _ (bA.trans (hB22.mono bA.size))).mono ?_; rintro e V23 ⟨na, nc, rfl, on23', hb23⟩; have hB23 : Below A.heap.size A V23 := bstep hB22 hB22.size hb23; have c23 := HD.out _ hB23; have bn23 : ∀ b, (Value.slice na (setL (order7 g)).length nc).ownBlock = some b → V22.heap.size ≤ b ∧ b < V23.heap.size := fun b hb => on23'.lt b hb; have z23 := hb23.size; have on23 := owns_mono on23' hB22.size; have om23 := owns_below om22 hb23)
            try (refine hK _ _ ?_)
            try clear hK K
            refine wpAny_take (i := 6) (v := ?_) rfl (by kernel_rfl) (by kernel_rfl) (by kernel_rfl) (fun _ _ _ h => h) (Or.inl ⟨by kernel_rfl, ?_⟩) ?_
            rotate_left
            focus (intro w; go_simp; first | done | with_reducible rfl)
            try go_simp
            refine wpAny_ready (rs := [7]) (by kernel_rfl) (by simp) ?_
            refine AllReady.cons rfl (fun K hK => ?_) ?_
            · go_simp
              refine hK _ _ ?_
              try clear hK K
              obtain ⟨V24, hV24⟩ : ∃ V24, World.alloc V23 (.cells #[.slice none 0 0, .slice none 0 0] 57) = V24 := ⟨_, rfl⟩
              try rw [hV24]
              have hB24 : Below A.heap.size A V24 := by rw [← hV24]; exact hB23.alloc hB23.size _
              have c24 := HD.out _ hB24
              have z24 : V23.heap.size < V24.heap.size := by rw [← hV24]; simp
              have om24 := owns_below om23 (below1 V23 (.cells #[.slice none 0 0, .slice none 0 0] 57))
              rw [hV24] at om24
              have bx24 : V24.heap[V23.heap.size]? = some (.cells #[.slice none 0 0, .slice none 0 0] 57) := by rw [← hV24]; exact heap_alloc_new _ _
              have on24 := owns_below on23 (below1 V23 (.cells #[.slice none 0 0, .slice none 0 0] 57))
              rw [hV24] at on24
              clear hV24
              refine wpAny_ready (rs := [8]) (by kernel_rfl) (by simp) ?_
              refine AllReady.cons rfl (fun K hK => ?_) ?_
              · obtain ⟨cb25, cc25, fb25, fc25⟩ := two_cells bx24
                go_simp
                refine hK _ _ ?_
                try clear hK K
                refine wpAny_done (by kernel_rfl) ?_ _
                go_wp2_with fail
                go_meet
                exact shrof_leaf on24 om24 bx24 hB24 (fun b hb => by have := bn23 b hb; omega) (by omega)
              exact AllReady.nil
            exact AllReady.nil
          refine AllReady.cons rfl (fun K hK => ?_) ?_
          · go_simp
            refine hK _ _ ?_
            try clear hK K
            obtain ⟨V26, hV26⟩ : ∃ V26, World.alloc V22 (.cells #[.slice none 0 0, .slice none 0 0] 57) = V26 := ⟨_, rfl⟩
            try rw [hV26]
            have hB26 : Below A.heap.size A V26 := by rw [← hV26]; exact hB22.alloc hB22.size _
            have c26 := HD.out _ hB26
            have z26 : V22.heap.size < V26.heap.size := by rw [← hV26]; simp
            have om26 := owns_below om22 (below1 V22 (.cells #[.slice none 0 0, .slice none 0 0] 57))
            rw [hV26] at om26
            have bx26 : V26.heap[V22.heap.size]? = some (.cells #[.slice none 0 0, .slice none 0 0] 57) := by rw [← hV26]; exact heap_alloc_new _ _
            clear hV26
            refine wpAny_ready (rs := [1]) (by kernel_rfl) (by simp) ?_
            refine AllReady.cons rfl (fun K hK => ?_) ?_
            · go_simp
              go_wp2_with (go_at_call 80; refine (HN.out _ (bA.trans (hB26.mono bA.size))).mono ?_; rintro e V27 ⟨na, nc, rfl, on27', hb27⟩; have hB27 : Below A.heap.size A V27 := bstep hB26 hB26.size hb27; have c27 := HD.out _ hB27; have bn27 : ∀ b, (Value.slice na (setL (order7 g)).length nc).ownBlock = some b → V26.heap.size ≤ b ∧ b < V27.heap.size := fun b hb => on27'.lt b hb; have z27 := hb27.size; have on27 := owns_mono on27' hB26.size; have om27 := owns_below om26 hb27; have bx27 := (hb27.block _ (Array.getElem?_eq_some_iff.1 bx26).1).trans bx26)
              try (refine hK _ _ ?_)
              try clear hK K
              refine wpAny_take (i := 6) (v := ?_) rfl (by kernel_rfl) (by kernel_rfl) (by kernel_rfl) (fun _ _ _ h => h) (Or.inl ⟨by kernel_rfl, ?_⟩) ?_
              rotate_left
              focus (intro w; go_simp; first | done | with_reducible rfl)
              try go_simp
              refine wpAny_ready (rs := [8]) (by kernel_rfl) (by simp) ?_
              refine AllReady.cons rfl (fun K hK => ?_) ?_
              · obtain ⟨cb28, cc28, fb28, fc28⟩ := two_cells bx27
                go_simp
                refine hK _ _ ?_
                try clear hK K
                refine wpAny_done (by kernel_rfl) ?_ _
                go_wp2_with fail
                go_meet
                exact shrof_leaf on27 om27 bx27 hB27 (fun b hb => by have := bn27 b hb; omega) (by omega)
              exact AllReady.nil
            exact AllReady.nil
          exact AllReady.nil
        refine AllReady.cons rfl (fun K hK => ?_) ?_
        · go_simp
          refine hK _ _ ?_
          try clear hK K
          obtain ⟨V29, hV29⟩ : ∃ V29, World.alloc W1 (.cells #[.slice none 0 0, .slice none 0 0] 57) = V29 := ⟨_, rfl⟩
          try rw [hV29]
          have hB29 : Below A.heap.size A V29 := by rw [← hV29]; exact hB0.alloc hB0.size _
          have c29 := HD.out _ hB29
          have z29 : W1.heap.size < V29.heap.size := by rw [← hV29]; simp
          have bx29 : V29.heap[W1.heap.size]? = some (.cells #[.slice none 0 0, .slice none 0 0] 57) := by rw [← hV29]; exact heap_alloc_new _ _
          clear hV29
          refine wpAny_ready (rs := [1, 5]) (by kernel_rfl) (by simp) ?_
          refine AllReady.cons rfl (fun K hK => ?_) ?_
          · go_simp
            go_wp2_with (go_at_call 80; refine (HN.out _ (bA.trans (hB29.mono bA.size))).mono ?_; rintro e V30 ⟨na, nc, rfl, on30', hb30⟩; have hB30 : Below A.heap.size A V30 := bstep hB29 hB29.size hb30; have c30 := HD.out _ hB30; have bn30 : ∀ b, (Value.slice na (setL (order7 g)).length nc).ownBlock = some b → V29.heap.size ≤ b ∧ b < V30.heap.size := fun b hb => on30'.lt b hb; have z30 := hb30.size; have on30 := owns_mono on30' hB29.size; have bx30 := (hb30.block _ (Array.getElem?_eq_some_iff.1 bx29).1).trans bx29)
            try (refine hK _ _ ?_)
            try clear hK K
            refine wpAny_ready (rs := [5]) (by kernel_rfl) (by simp) ?_
            refine AllReady.cons rfl (fun K hK => ?_) ?_
            · have mk := HMK.out V30
              go_simp
              refine hK _ _ ?_
              try clear hK K
              obtain ⟨V31, hV31⟩ : ∃ V31, World.alloc V30 (.cells (madeCells #[.slice none 0 0] g.length) 54) = V31 := ⟨_, rfl⟩
              try rw [hV31]
              have hB31 : Below A.heap.size A V31 := by rw [← hV31]; exact hB30.alloc hB30.size _
              have c31 := HD.out _ hB31
              have z31 : V30.heap.size < V31.heap.size := by rw [← hV31]; simp
              have om31 : V31.ownsRow A.heap.size 54 1 (.slice (some ⟨V30.heap.size, 0, none⟩) g.length g.length) g.length (vals (noLists g.length)) := by rw [← hV31]; exact made_own hB30.size hgm
              have bx31 := ((below1 V30 (.cells (madeCells #[.slice none 0 0] g.length) 54)).block _ (Array.getElem?_eq_some_iff.1 bx30).1).trans bx30
              rw [hV31] at bx31
              have on31 := owns_below on30 (below1 V30 (.cells (madeCells #[.slice none 0 0] g.length) 54))
              rw [hV31] at on31
              clear hV31
              refine wpAny_take (i := 6) (v := ?_) rfl (by kernel_rfl) (by kernel_rfl) (by kernel_rfl) (fun _ _ _ h => h) (Or.inl ⟨by kernel_rfl, ?_⟩) ?_
              rotate_left
              focus (intro w; go_simp; first | done | with_reducible rfl)
              try go_simp
              refine wpAny_ready (rs := [8]) (by kernel_rfl) (by simp) ?_
              refine AllReady.cons rfl (fun K hK => ?_) ?_
              · obtain ⟨cb32, cc32, fb32, fc32⟩ := two_cells bx31
                go_simp
                refine hK _ _ ?_
                try clear hK K
                refine wpAny_done (by kernel_rfl) ?_ _
                go_wp2_with fail
                go_meet
                exact shrof_leaf on31 om31 bx31 hB31 (fun b hb => by have := bn30 b hb; omega) (by omega)
              exact AllReady.nil
            exact AllReady.nil
          refine AllReady.cons rfl (fun K hK => ?_) ?_
          · have mk := HMK.out V29
            go_simp
            refine hK _ _ ?_
            try clear hK K
            obtain ⟨V33, hV33⟩ : ∃ V33, World.alloc V29 (.cells (madeCells #[.slice none 0 0] g.length) 54) = V33 := ⟨_, rfl⟩
            try rw [hV33]
            have hB33 : Below A.heap.size A V33 := by rw [← hV33]; exact hB29.alloc hB29.size _
            have c33 := HD.out _ hB33
            have z33 : V29.heap.size < V33.heap.size := by rw [← hV33]; simp
            have om33 : V33.ownsRow A.heap.size 54 1 (.slice (some ⟨V29.heap.size, 0, none⟩) g.length g.length) g.length (vals (noLists g.length)) := by rw [← hV33]; exact made_own hB29.size hgm
            have bx33 := ((below1 V29 (.cells (madeCells #[.slice none 0 0] g.length) 54)).block _ (Array.getElem?_eq_some_iff.1 bx29).1).trans bx29
            rw [hV33] at bx33
            clear hV33
            refine wpAny_ready (rs := [1]) (by kernel_rfl) (by simp) ?_
            refine AllReady.cons rfl (fun K hK => ?_) ?_
            · go_simp
              go_wp2_with (go_at_call 80; refine (HN.out _ (bA.trans (hB33.mono bA.size))).mono ?_; rintro e V34 ⟨na, nc, rfl, on34', hb34⟩; have hB34 : Below A.heap.size A V34 := bstep hB33 hB33.size hb34; have c34 := HD.out _ hB34; have bn34 : ∀ b, (Value.slice na (setL (order7 g)).length nc).ownBlock = some b → V33.heap.size ≤ b ∧ b < V34.heap.size := fun b hb => on34'.lt b hb; have z34 := hb34.size; have on34 := owns_mono on34' hB33.size; have om34 := owns_below om33 hb34; have bx34 := (hb34.block _ (Array.getElem?_eq_some_iff.1 bx33).1).trans bx33)
              try (refine hK _ _ ?_)
              try clear hK K
              refine wpAny_take (i := 6) (v := ?_) rfl (by kernel_rfl) (by kernel_rfl) (by kernel_rfl) (fun _ _ _ h => h) (Or.inl ⟨by kernel_rfl, ?_⟩) ?_
              rotate_left
              focus (intro w; go_simp; first | done | with_reducible rfl)
              try go_simp
              refine wpAny_ready (rs := [8]) (by kernel_rfl) (by simp) ?_
              refine AllReady.cons rfl (fun K hK => ?_) ?_
              · obtain ⟨cb35, cc35, fb35, fc35⟩ := two_cells bx34
                go_simp
                refine hK _ _ ?_
                try clear hK K
                refine wpAny_done (by kernel_rfl) ?_ _
                go_wp2_with fail
                go_meet
                exact shrof_leaf on34 om34 bx34 hB34 (fun b hb => by have := bn34 b hb; omega) (by omega)
              exact AllReady.nil
            exact AllReady.nil
          exact AllReady.nil
        exact AllReady.nil
      refine AllReady.cons rfl (fun K hK => ?_) ?_
      · go_simp
        refine hK _ _ ?_
        try clear hK K
        obtain ⟨V36, hV36⟩ : ∃ V36, World.alloc W1 (.cells #[.slice none 0 0, .slice none 0 0] 57) = V36 := ⟨_, rfl⟩
        try rw [hV36]
        have hB36 : Below A.heap.size A V36 := by rw [← hV36]; exact hB0.alloc hB0.size _
        have c36 := HD.out _ hB36
        have z36 : W1.heap.size < V36.heap.size := by rw [← hV36]; simp
        have bx36 : V36.heap[W1.heap.size]? = some (.cells #[.slice none 0 0, .slice none 0 0] 57) := by rw [← hV36]; exact heap_alloc_new _ _
        clear hV36
        refine wpAny_ready (rs := [1, 3]) (by kernel_rfl) (by simp) ?_
        refine AllReady.cons rfl (fun K hK => ?_) ?_
        · go_simp
          go_wp2_with (go_at_call 80; refine (HN.out _ (bA.trans (hB36.mono bA.size))).mono ?_; rintro e V37 ⟨na, nc, rfl, on37', hb37⟩; have hB37 : Below A.heap.size A V37 := bstep hB36 hB36.size hb37; have c37 := HD.out _ hB37; have bn37 : ∀ b, (Value.slice na (setL (order7 g)).length nc).ownBlock = some b → V36.heap.size ≤ b ∧ b < V37.heap.size := fun b hb => on37'.lt b hb; have z37 := hb37.size; have on37 := owns_mono on37' hB36.size; have bx37 := (hb37.block _ (Array.getElem?_eq_some_iff.1 bx36).1).trans bx36)
          try (refine hK _ _ ?_)
          try clear hK K
          refine wpAny_ready (rs := [3]) (by kernel_rfl) (by simp) ?_
          refine AllReady.cons rfl (fun K hK => ?_) ?_
          · go_simp
            refine hK _ _ ?_
            try clear hK K
            refine wpAny_take (i := 4) (v := ?_) rfl (by kernel_rfl) (by kernel_rfl) (by kernel_rfl) (fun _ _ _ h => h) (Or.inl ⟨by kernel_rfl, ?_⟩) ?_
            rotate_left
            focus (intro w; go_simp; first | done | with_reducible rfl)
            try go_simp
            refine wpAny_ready (rs := [5]) (by kernel_rfl) (by simp) ?_
            refine AllReady.cons rfl (fun K hK => ?_) ?_
            · have mk := HMK.out V37
              go_simp
              refine hK _ _ ?_
              try clear hK K
              obtain ⟨V39, hV39⟩ : ∃ V39, World.alloc V37 (.cells (madeCells #[.slice none 0 0] g.length) 54) = V39 := ⟨_, rfl⟩
              try rw [hV39]
              have hB39 : Below A.heap.size A V39 := by rw [← hV39]; exact hB37.alloc hB37.size _
              have c39 := HD.out _ hB39
              have z39 : V37.heap.size < V39.heap.size := by rw [← hV39]; simp
              have om39 : V39.ownsRow A.heap.size 54 1 (.slice (some ⟨V37.heap.size, 0, none⟩) g.length g.length) g.length (vals (noLists g.length)) := by rw [← hV39]; exact made_own hB37.size hgm
              have bx39 := ((below1 V37 (.cells (madeCells #[.slice none 0 0] g.length) 54)).block _ (Array.getElem?_eq_some_iff.1 bx37).1).trans bx37
              rw [hV39] at bx39
              have on39 := owns_below on37 (below1 V37 (.cells (madeCells #[.slice none 0 0] g.length) 54))
              rw [hV39] at on39
              clear hV39
              refine wpAny_take (i := 6) (v := ?_) rfl (by kernel_rfl) (by kernel_rfl) (by kernel_rfl) (fun _ _ _ h => h) (Or.inl ⟨by kernel_rfl, ?_⟩) ?_
              rotate_left
              focus (intro w; go_simp; first | done | with_reducible rfl)
              try go_simp
              refine wpAny_ready (rs := [8]) (by kernel_rfl) (by simp) ?_
              refine AllReady.cons rfl (fun K hK => ?_) ?_
              · obtain ⟨cb40, cc40, fb40, fc40⟩ := two_cells bx39
                go_simp
                refine hK _ _ ?_
                try clear hK K
                refine wpAny_done (by kernel_rfl) ?_ _
                go_wp2_with fail
                go_meet
                exact shrof_leaf on39 om39 bx39 hB39 (fun b hb => by have := bn37 b hb; omega) (by omega)
              exact AllReady.nil
            exact AllReady.nil
          exact AllReady.nil
        refine AllReady.cons rfl (fun K hK => ?_) ?_
        · go_simp
          refine hK _ _ ?_
          try clear hK K
          refine wpAny_take (i := 4) (v := ?_) rfl (by kernel_rfl) (by kernel_rfl) (by kernel_rfl) (fun _ _ _ h => h) (Or.inl ⟨by kernel_rfl, ?_⟩) ?_
          rotate_left
          focus (intro w; go_simp; first | done | with_reducible rfl)
          try go_simp
          refine wpAny_ready (rs := [1, 5]) (by kernel_rfl) (by simp) ?_
          refine AllReady.cons rfl (fun K hK => ?_) ?_
          · go_simp
            go_wp2_with (go_at_call 80; refine (HN.out _ (bA.trans (hB36.mono bA.size))).mono ?_; rintro e V42 ⟨na, nc, rfl, on42', hb42⟩; have hB42 : Below A.heap.size A V42 := bstep hB36 hB36.size hb42; have c42 := HD.out _ hB42; have bn42 : ∀ b, (Value.slice na (setL (order7 g)).length nc).ownBlock = some b → V36.heap.size ≤ b ∧ b < V42.heap.size := fun b hb => on42'.lt b hb; have z42 := hb42.size; have on42 := owns_mono on42' hB36.size; have bx42 := (hb42.block _ (Array.getElem?_eq_some_iff.1 bx36).1).trans bx36)
            try (refine hK _ _ ?_)
            try clear hK K
            refine wpAny_ready (rs := [5]) (by kernel_rfl) (by simp) ?_
            refine AllReady.cons rfl (fun K hK => ?_) ?_
            · have mk := HMK.out V42
              go_simp
              refine hK _ _ ?_
              try clear hK K
              obtain ⟨V43, hV43⟩ : ∃ V43, World.alloc V42 (.cells (madeCells #[.slice none 0 0] g.length) 54) = V43 := ⟨_, rfl⟩
              try rw [hV43]
              have hB43 : Below A.heap.size A V43 := by rw [← hV43]; exact hB42.alloc hB42.size _
              have c43 := HD.out _ hB43
              have z43 : V42.heap.size < V43.heap.size := by rw [← hV43]; simp
              have om43 : V43.ownsRow A.heap.size 54 1 (.slice (some ⟨V42.heap.size, 0, none⟩) g.length g.length) g.length (vals (noLists g.length)) := by rw [← hV43]; exact made_own hB42.size hgm
              have bx43 := ((below1 V42 (.cells (madeCells #[.slice none 0 0] g.length) 54)).block _ (Array.getElem?_eq_some_iff.1 bx42).1).trans bx42
              rw [hV43] at bx43
              have on43 := owns_below on42 (below1 V42 (.cells (madeCells #[.slice none 0 0] g.length) 54))
              rw [hV43] at on43
              clear hV43
              refine wpAny_take (i := 6) (v := ?_) rfl (by kernel_rfl) (by kernel_rfl) (by kernel_rfl) (fun _ _ _ h => h) (Or.inl ⟨by kernel_rfl, ?_⟩) ?_
              rotate_left
              focus (intro w; go_simp; first | done | with_reducible rfl)
              try go_simp
              refine wpAny_ready (rs := [8]) (by kernel_rfl) (by simp) ?_
              refine AllReady.cons rfl (fun K hK => ?_) ?_
              · obtain ⟨cb44, cc44, fb44, fc44⟩ := two_cells bx43
                go_simp
                refine hK _ _ ?_
                try clear hK K
                refine wpAny_done (by kernel_rfl) ?_ _
                go_wp2_with fail
                go_meet
                exact shrof_leaf on43 om43 bx43 hB43 (fun b hb => by have := bn42 b hb; omega) (by omega)
              exact AllReady.nil
            exact AllReady.nil
          refine AllReady.cons rfl (fun K hK => ?_) ?_
          · have mk := HMK.out V36
            go_simp
            refine hK _ _ ?_
            try clear hK K
            obtain ⟨V45, hV45⟩ : ∃ V45, World.alloc V36 (.cells (madeCells #[.slice none 0 0] g.length) 54) = V45 := ⟨_, rfl⟩
            try rw [hV45]
            have hB45 : Below A.heap.size A V45 := by rw [← hV45]; exact hB36.alloc hB36.size _
            have c45 := HD.out _ hB45
            have z45 : V36.heap.size < V45.heap.size := by rw [← hV45]; simp
            have om45 : V45.ownsRow A.heap.size 54 1 (.slice (some ⟨V36.heap.size, 0, none⟩) g.length g.length) g.length (vals (noLists g.length)) := by rw [← hV45]; exact made_own hB36.size hgm
            have bx45 := ((below1 V36 (.cells (madeCells #[.slice none 0 0] g.length) 54)).block _ (Array.getElem?_eq_some_iff.1 bx36).1).trans bx36
            rw [hV45] at bx45
            clear hV45
            refine wpAny_ready (rs := [1]) (by kernel_rfl) (by simp) ?_
            refine AllReady.cons rfl (fun K hK => ?_) ?_
            · go_simp
              go_wp2_with (go_at_call 80; refine (HN.out _ (bA.trans (hB45.mono bA.size))).mono ?_; rintro e V46 ⟨na, nc, rfl, on46', hb46⟩; have hB46 : Below A.heap.size A V46 := bstep hB45 hB45.size hb46; have c46 := HD.out _ hB46; have bn46 : ∀ b, (Value.slice na (setL (order7 g)).length nc).ownBlock = some b → V45.heap.size ≤ b ∧ b < V46.heap.size := fun b hb => on46'.lt b hb; have z46 := hb46.size; have on46 := owns_mono on46' hB45.size; have om46 := owns_below om45 hb46; have bx46 := (hb46.block _ (Array.getElem?_eq_some_iff.1 bx45).1).trans bx45)
              try (refine hK _ _ ?_)
              try clear hK K
              refine wpAny_take (i := 6) (v := ?_) rfl (by kernel_rfl) (by kernel_rfl) (by kernel_rfl) (fun _ _ _ h => h) (Or.inl ⟨by kernel_rfl, ?_⟩) ?_
              rotate_left
              focus (intro w; go_simp; first | done | with_reducible rfl)
              try go_simp
              refine wpAny_ready (rs := [8]) (by kernel_rfl) (by simp) ?_
              refine AllReady.cons rfl (fun K hK => ?_) ?_
              · obtain ⟨cb47, cc47, fb47, fc47⟩ := two_cells bx46
                go_simp
                refine hK _ _ ?_
                try clear hK K
                refine wpAny_done (by kernel_rfl) ?_ _
                go_wp2_with fail
                go_meet
                exact shrof_leaf on46 om46 bx46 hB46 (fun b hb => by have := bn46 b hb; omega) (by omega)
              exact AllReady.nil
            exact AllReady.nil
          exact AllReady.nil
        exact AllReady.nil
      exact AllReady.nil
    refine AllReady.cons rfl (fun K hK => ?_) ?_
    · go_simp
      refine hK _ _ ?_
      try clear hK K
      refine wpAny_take (i := 4) (v := ?_) rfl (by kernel_rfl) (by kernel_rfl) (by kernel_rfl) (fun _ _ _ h => h) (Or.inl ⟨by kernel_rfl, ?_⟩) ?_
      rotate_left
      focus (intro w; go_simp; first | done | with_reducible rfl)
      try go_simp
      refine wpAny_ready (rs := [0, 5, 7]) (by kernel_rfl) (by simp) ?_
      refine AllReady.cons rfl (fun K hK => ?_) ?_
      · go_simp
        refine hK _ _ ?_
        try clear hK K
        refine wpAny_ready (rs := [1, 5, 7]) (by kernel_rfl) (by simp) ?_
        refine AllReady.cons rfl (fun K hK => ?_) ?_
        · go_simp
          go_wp2_with (go_at_call 80; refine (HN.out _ (bA.trans (hB0.mono bA.size))).mono ?_; rintro e V50 ⟨na, nc, rfl, on50', hb50⟩; have hB50 : Below A.heap.size A V50 := bstep hB0 hB0.size hb50; have c50 := HD.out _ hB50; have bn50 : ∀ b, (Value.slice na (setL (order7 g)).length nc).ownBlock = some b → W1.heap.size ≤ b ∧ b < V50.heap.size := fun b hb => on50'.lt b hb; have z50 := hb50.size; have on50 := owns_mono on50' hB0.size)
          try (refine hK _ _ ?_)
          try clear hK K
          refine wpAny_ready (rs := [5, 7]) (by kernel_rfl) (by simp) ?_
          refine AllReady.cons rfl (fun K hK => ?_) ?_
          · have mk := HMK.out V50
            go_simp
            refine hK _ _ ?_
            try clear hK K
            obtain ⟨V51, hV51⟩ : ∃ V51, World.alloc V50 (.cells (madeCells #[.slice none 0 0] g.length) 54) = V51 := ⟨_, rfl⟩
            try rw [hV51]
            have hB51 : Below A.heap.size A V51 := by rw [← hV51]; exact hB50.alloc hB50.size _
            have c51 := HD.out _ hB51
            have z51 : V50.heap.size < V51.heap.size := by rw [← hV51]; simp
            have om51 : V51.ownsRow A.heap.size 54 1 (.slice (some ⟨V50.heap.size, 0, none⟩) g.length g.length) g.length (vals (noLists g.length)) := by rw [← hV51]; exact made_own hB50.size hgm
            have on51 := owns_below on50 (below1 V50 (.cells (madeCells #[.slice none 0 0] g.length) 54))
            rw [hV51] at on51
            clear hV51
            refine wpAny_take (i := 6) (v := ?_) rfl (by kernel_rfl) (by kernel_rfl) (by kernel_rfl) (fun _ _ _ h => h) (Or.inl ⟨by kernel_rfl, ?_⟩) ?_
            rotate_left
            focus (intro w; go_simp; first | done | with_reducible rfl)
            try go_simp
            refine wpAny_ready (rs := [7]) (by kernel_rfl) (by simp) ?_
            refine AllReady.cons rfl (fun K hK => ?_) ?_
            · go_simp
              refine hK _ _ ?_
              try clear hK K
              obtain ⟨V52, hV52⟩ : ∃ V52, World.alloc V51 (.cells #[.slice none 0 0, .slice none 0 0] 57) = V52 := ⟨_, rfl⟩
              try rw [hV52]
              have hB52 : Below A.heap.size A V52 := by rw [← hV52]; exact hB51.alloc hB51.size _
              have c52 := HD.out _ hB52
              have z52 : V51.heap.size < V52.heap.size := by rw [← hV52]; simp
              have om52 := owns_below om51 (below1 V51 (.cells #[.slice none 0 0, .slice none 0 0] 57))
              rw [hV52] at om52
              have bx52 : V52.heap[V51.heap.size]? = some (.cells #[.slice none 0 0, .slice none 0 0] 57) := by rw [← hV52]; exact heap_alloc_new _ _
              have on52 := owns_below on51 (below1 V51 (.cells #[.slice none 0 0, .slice none 0 0] 57))
              rw [hV52] at on52
              clear hV52
              refine wpAny_ready (rs := [8]) (by kernel_rfl) (by simp) ?_
              refine AllReady.cons rfl (fun K hK => ?_) ?_
              · obtain ⟨cb53, cc53, fb53, fc53⟩ := two_cells bx52
                go_simp
                refine hK _ _ ?_
                try clear hK K
                refine wpAny_done (by kernel_rfl) ?_ _
                go_wp2_with fail
                go_meet
                exact shrof_leaf on52 om52 bx52 hB52 (fun b hb => by have := bn50 b hb; omega) (by omega)
              exact AllReady.nil
            exact AllReady.nil
          refine AllReady.cons rfl (fun K hK => ?_) ?_
          · go_simp
            refine hK _ _ ?_
            try clear hK K
            obtain ⟨V54, hV54⟩ : ∃ V54, World.alloc V50 (.cells #[.slice none 0 0, .slice none 0 0] 57) = V54 := ⟨_, rfl⟩
            try rw [hV54]
            have hB54 : Below A.heap.size A V54 := by rw [← hV54]; exact hB50.alloc hB50.size _
            have c54 := HD.out _ hB54
            have z54 : V50.heap.size < V54.heap.size := by rw [← hV54]; simp
            have bx54 : V54.heap[V50.heap.size]? = some (.cells #[.slice none 0 0, .slice none 0 0] 57) := by rw [← hV54]; exact heap_alloc_new _ _
            have on54 := owns_below on50 (below1 V50 (.cells #[.slice none 0 0, .slice none 0 0] 57))
            rw [hV54] at on54
            clear hV54
            refine wpAny_ready (rs := [5]) (by kernel_rfl) (by simp) ?_
            refine AllReady.cons rfl (fun K hK => ?_) ?_
            · have mk := HMK.out V54
              go_simp
              refine hK _ _ ?_
              try clear hK K
              obtain ⟨V55, hV55⟩ : ∃ V55, World.alloc V54 (.cells (madeCells #[.slice none 0 0] g.length) 54) = V55 := ⟨_, rfl⟩
              try rw [hV55]
              have hB55 : Below A.heap.size A V55 := by rw [← hV55]; exact hB54.alloc hB54.size _
              have c55 := HD.out _ hB55
              have z55 : V54.heap.size < V55.heap.size := by rw [← hV55]; simp
              have om55 : V55.ownsRow A.heap.size 54 1 (.slice (some ⟨V54.heap.size, 0, none⟩) g.length g.length) g.length (vals (noLists g.length)) := by rw [← hV55]; exact made_own hB54.size hgm
              have bx55 := ((below1 V54 (.cells (madeCells #[.slice none 0 0] g.length) 54)).block _ (Array.getElem?_eq_some_iff.1 bx54).1).trans bx54
              rw [hV55] at bx55
              have on55 := owns_below on54 (below1 V54 (.cells (madeCells #[.slice none 0 0] g.length) 54))
              rw [hV55] at on55
              clear hV55
              refine wpAny_take (i := 6) (v := ?_) rfl (by kernel_rfl) (by kernel_rfl) (by kernel_rfl) (fun _ _ _ h => h) (Or.inl ⟨by kernel_rfl, ?_⟩) ?_
              rotate_left
              focus (intro w; go_simp; first | done | with_reducible rfl)
              try go_simp
              refine wpAny_ready (rs := [8]) (by kernel_rfl) (by simp) ?_
              refine AllReady.cons rfl (fun K hK => ?_) ?_
              · obtain ⟨cb56, cc56, fb56, fc56⟩ := two_cells bx55
                go_simp
                refine hK _ _ ?_
                try clear hK K
                refine wpAny_done (by kernel_rfl) ?_ _
                go_wp2_with fail
                go_meet
                exact shrof_leaf on55 om55 bx55 hB55 (fun b hb => by have := bn50 b hb; omega) (by omega)
              exact AllReady.nil
            exact AllReady.nil
          exact AllReady.nil
        refine AllReady.cons rfl (fun K hK => ?_) ?_
        · have mk := HMK.out W1
          go_simp
          refine hK _ _ ?_
          try clear hK K
          obtain ⟨V57, hV57⟩ : ∃ V57, World.alloc W1 (.cells (madeCells #[.slice none 0 0] g.length) 54) = V57 := ⟨_, rfl⟩
          try rw [hV57]
          have hB57 : Below A.heap.size A V57 := by rw [← hV57]; exact hB0.alloc hB0.size _
          have c57 := HD.out _ hB57
          have z57 : W1.heap.size < V57.heap.size := by rw [← hV57]; simp
          have om57 : V57.ownsRow A.heap.size 54 1 (.slice (some ⟨W1.heap.size, 0, none⟩) g.length g.length) g.length (vals (noLists g.length)) := by rw [← hV57]; exact made_own hB0.size hgm
          clear hV57
          refine wpAny_ready (rs := [1, 7]) (by kernel_rfl) (by simp) ?_
          refine AllReady.cons rfl (fun K hK => ?_) ?_
          · go_simp
            go_wp2_with (go_at_call 80; refine (HN.out _ (bA.trans (hB57.mono bA.size))).mono ?_; rintro e V58 ⟨na, nc, rfl, on58', hb58⟩; have hB58 : Below A.heap.size A V58 := bstep hB57 hB57.size hb58; have c58 := HD.out _ hB58; have bn58 : ∀ b, (Value.slice na (setL (order7 g)).length nc).ownBlock = some b → V57.heap.size ≤ b ∧ b < V58.heap.size := fun b hb => on58'.lt b hb; have z58 := hb58.size; have on58 := owns_mono on58' hB57.size; have om58 := owns_below om57 hb58)
            try (refine hK _ _ ?_)
            try clear hK K
            refine wpAny_take (i := 6) (v := ?_) rfl (by kernel_rfl) (by kernel_rfl) (by kernel_rfl) (fun _ _ _ h => h) (Or.inl ⟨by kernel_rfl, ?_⟩) ?_
            rotate_left
            focus (intro w; go_simp; first | done | with_reducible rfl)
            try go_simp
            refine wpAny_ready (rs := [7]) (by kernel_rfl) (by simp) ?_
            refine AllReady.cons rfl (fun K hK => ?_) ?_
            · go_simp
              refine hK _ _ ?_
              try clear hK K
              obtain ⟨V59, hV59⟩ : ∃ V59, World.alloc V58 (.cells #[.slice none 0 0, .slice none 0 0] 57) = V59 := ⟨_, rfl⟩
              try rw [hV59]
              have hB59 : Below A.heap.size A V59 := by rw [← hV59]; exact hB58.alloc hB58.size _
              have c59 := HD.out _ hB59
              have z59 : V58.heap.size < V59.heap.size := by rw [← hV59]; simp
              have om59 := owns_below om58 (below1 V58 (.cells #[.slice none 0 0, .slice none 0 0] 57))
              rw [hV59] at om59
              have bx59 : V59.heap[V58.heap.size]? = some (.cells #[.slice none 0 0, .slice none 0 0] 57) := by rw [← hV59]; exact heap_alloc_new _ _
              have on59 := owns_below on58 (below1 V58 (.cells #[.slice none 0 0, .slice none 0 0] 57))
              rw [hV59] at on59
              clear hV59
              refine wpAny_ready (rs := [8]) (by kernel_rfl) (by simp) ?_
              refine AllReady.cons rfl (fun K hK => ?_) ?_
              · obtain ⟨cb60, cc60, fb60, fc60⟩ := two_cells bx59
                go_simp
                refine hK _ _ ?_
                try clear hK K
                refine wpAny_done (by kernel_rfl) ?_ _
                go_wp2_with fail
                go_meet
                exact shrof_leaf on59 om59 bx59 hB59 (fun b hb => by have := bn58 b hb; omega) (by omega)
              exact AllReady.nil
            exact AllReady.nil
          refine AllReady.cons rfl (fun K hK => ?_) ?_
          · go_simp
            refine hK _ _ ?_
            try clear hK K
            obtain ⟨V61, hV61⟩ : ∃ V61, World.alloc V57 (.cells #[.slice none 0 0, .slice none 0 0] 57) = V61 := ⟨_, rfl⟩
            try rw [hV61]
            have hB61 : Below A.heap.size A V61 := by rw [← hV61]; exact hB57.alloc hB57.size _
            have c61 := HD.out _ hB61
            have z61 : V57.heap.size < V61.heap.size := by rw [← hV61]; simp
            have om61 := owns_below om57 (below1 V57 (.cells #[.slice none 0 0, .slice none 0 0] 57))
            rw [hV61] at om61
            have bx61 : V61.heap[V57.heap.size]? = some (.cells #[.slice none 0 0, .slice none 0 0] 57) := by rw [← hV61]; exact heap_alloc_new _ _
            clear hV61
            refine wpAny_ready (rs := [1]) (by kernel_rfl) (by simp) ?_
            refine AllReady.cons rfl (fun K hK => ?_) ?_
            · go_simp
              go_wp2_with (go_at_call 80; refine (HN.out _ (bA.trans (hB61.mono bA.size))).mono ?_; rintro e V62 ⟨na, nc, rfl, on62', hb62⟩; have hB62 : Below A.heap.size A V62 := bstep hB61 hB61.size hb62; have c62 := HD.out _ hB62; have bn62 : ∀ b, (Value.slice na (setL (order7 g)).length nc).ownBlock = some b → V61.heap.size ≤ b ∧ b < V62.heap.size := fun b hb => on62'.lt b hb; have z62 := hb62.size; have on62 := owns_mono on62' hB61.size; have om62 := owns_below om61 hb62; have bx62 := (hb62.block _ (Array.getElem?_eq_some_iff.1 bx61).1).trans bx61)
              try (refine hK _ _ ?_)
              try clear hK K
              refine wpAny_take (i := 6) (v := ?_) rfl (by kernel_rfl) (by kernel_rfl) (by kernel_rfl) (fun _ _ _ h => h) (Or.inl ⟨by kernel_rfl, ?_⟩) ?_
              rotate_left
              focus (intro w; go_simp; first | done | with_reducible rfl)
              try go_simp
              refine wpAny_ready (rs := [8]) (by kernel_rfl) (by simp) ?_
              refine AllReady.cons rfl (fun K hK => ?_) ?_
              · obtain ⟨cb63, cc63, fb63, fc63⟩ := two_cells bx62
                go_simp
                refine hK _ _ ?_
                try clear hK K
                refine wpAny_done (by kernel_rfl) ?_ _
                go_wp2_with fail
                go_meet
                exact shrof_leaf on62 om62 bx62 hB62 (fun b hb => by have := bn62 b hb; omega) (by omega)
              exact AllReady.nil
            exact AllReady.nil
          exact AllReady.nil
        refine AllReady.cons rfl (fun K hK => ?_) ?_
        · go_simp
          refine hK _ _ ?_
          try clear hK K
          obtain ⟨V64, hV64⟩ : ∃ V64, World.alloc W1 (.cells #[.slice none 0 0, .slice none 0 0] 57) = V64 := ⟨_, rfl⟩
          try rw [hV64]
          have hB64 : Below A.heap.size A V64 := by rw [← hV64]; exact hB0.alloc hB0.size _
          have c64 := HD.out _ hB64
          have z64 : W1.heap.size < V64.heap.size := by rw [← hV64]; simp
          have bx64 : V64.heap[W1.heap.size]? = some (.cells #[.slice none 0 0, .slice none 0 0] 57) := by rw [← hV64]; exact heap_alloc_new _ _
          clear hV64
          refine wpAny_ready (rs := [1, 5]) (by kernel_rfl) (by simp) ?_
          refine AllReady.cons rfl (fun K hK => ?_) ?_
          · go_simp
            go_wp2_with (go_at_call 80; refine (HN.out _ (bA.trans (hB64.mono bA.size))).mono ?_; rintro e V65 ⟨na, nc, rfl, on65', hb65⟩; have hB65 : Below A.heap.size A V65 := bstep hB64 hB64.size hb65; have c65 := HD.out _ hB65; have bn65 : ∀ b, (Value.slice na (setL (order7 g)).length nc).ownBlock = some b → V64.heap.size ≤ b ∧ b < V65.heap.size := fun b hb => on65'.lt b hb; have z65 := hb65.size; have on65 := owns_mono on65' hB64.size; have bx65 := (hb65.block _ (Array.getElem?_eq_some_iff.1 bx64).1).trans bx64)
            try (refine hK _ _ ?_)
            try clear hK K
            refine wpAny_ready (rs := [5]) (by kernel_rfl) (by simp) ?_
            refine AllReady.cons rfl (fun K hK => ?_) ?_
            · have mk := HMK.out V65
              go_simp
              refine hK _ _ ?_
              try clear hK K
              obtain ⟨V66, hV66⟩ : ∃ V66, World.alloc V65 (.cells (madeCells #[.slice none 0 0] g.length) 54) = V66 := ⟨_, rfl⟩
              try rw [hV66]
              have hB66 : Below A.heap.size A V66 := by rw [← hV66]; exact hB65.alloc hB65.size _
              have c66 := HD.out _ hB66
              have z66 : V65.heap.size < V66.heap.size := by rw [← hV66]; simp
              have om66 : V66.ownsRow A.heap.size 54 1 (.slice (some ⟨V65.heap.size, 0, none⟩) g.length g.length) g.length (vals (noLists g.length)) := by rw [← hV66]; exact made_own hB65.size hgm
              have bx66 := ((below1 V65 (.cells (madeCells #[.slice none 0 0] g.length) 54)).block _ (Array.getElem?_eq_some_iff.1 bx65).1).trans bx65
              rw [hV66] at bx66
              have on66 := owns_below on65 (below1 V65 (.cells (madeCells #[.slice none 0 0] g.length) 54))
              rw [hV66] at on66
              clear hV66
              refine wpAny_take (i := 6) (v := ?_) rfl (by kernel_rfl) (by kernel_rfl) (by kernel_rfl) (fun _ _ _ h => h) (Or.inl ⟨by kernel_rfl, ?_⟩) ?_
              rotate_left
              focus (intro w; go_simp; first | done | with_reducible rfl)
              try go_simp
              refine wpAny_ready (rs := [8]) (by kernel_rfl) (by simp) ?_
              refine AllReady.cons rfl (fun K hK => ?_) ?_
              · obtain ⟨cb67, cc67, fb67, fc67⟩ := two_cells bx66
                go_simp
                refine hK _ _ ?_
                try clear hK K
                refine wpAny_done (by kernel_rfl) ?_ _
                go_wp2_with fail
                go_meet
                exact shrof_leaf on66 om66 bx66 hB66 (fun b hb => by have := bn65 b hb; omega) (by omega)
              exact AllReady.nil
            exact AllReady.nil
          refine AllReady.cons rfl (fun K hK => ?_) ?_
          · have mk := HMK.out V64
            go_simp
            refine hK _ _ ?_
            try clear hK K
            obtain ⟨V68, hV68⟩ : ∃ V68, World.alloc V64 (.cells (madeCells #[.slice none 0 0] g.length) 54) = V68 := ⟨_, rfl⟩
            try rw [hV68]
            have hB68 : Below A.heap.size A V68 := by rw [← hV68]; exact hB64.alloc hB64.size _
            have c68 := HD.out _ hB68
            have z68 : V64.heap.size < V68.heap.size := by rw [← hV68]; simp
            have om68 : V68.ownsRow A.heap.size 54 1 (.slice (some ⟨V64.heap.size, 0, none⟩) g.length g.length) g.length (vals (noLists g.length)) := by rw [← hV68]; exact made_own hB64.size hgm
            have bx68 := ((below1 V64 (.cells (madeCells #[.slice none 0 0] g.length) 54)).block _ (Array.getElem?_eq_some_iff.1 bx64).1).trans bx64
            rw [hV68] at bx68
            clear hV68
            refine wpAny_ready (rs := [1]) (by kernel_rfl) (by simp) ?_
            refine AllReady.cons rfl (fun K hK => ?_) ?_
            · go_simp
              go_wp2_with (go_at_call 80; refine (HN.out _ (bA.trans (hB68.mono bA.size))).mono ?_; rintro e V69 ⟨na, nc, rfl, on69', hb69⟩; have hB69 : Below A.heap.size A V69 := bstep hB68 hB68.size hb69; have c69 := HD.out _ hB69; have bn69 : ∀ b, (Value.slice na (setL (order7 g)).length nc).ownBlock = some b → V68.heap.size ≤ b ∧ b < V69.heap.size := fun b hb => on69'.lt b hb; have z69 := hb69.size; have on69 := owns_mono on69' hB68.size; have om69 := owns_below om68 hb69; have bx69 := (hb69.block _ (Array.getElem?_eq_some_iff.1 bx68).1).trans bx68)
              try (refine hK _ _ ?_)
              try clear hK K
              refine wpAny_take (i := 6) (v := ?_) rfl (by kernel_rfl) (by kernel_rfl) (by kernel_rfl) (fun _ _ _ h => h) (Or.inl ⟨by kernel_rfl, ?_⟩) ?_
              rotate_left
              focus (intro w; go_simp; first | done | with_reducible rfl)
              try go_simp
              refine wpAny_ready (rs := [8]) (by kernel_rfl) (by simp) ?_
              refine AllReady.cons rfl (fun K hK => ?_) ?_
              · obtain ⟨cb70, cc70, fb70, fc70⟩ := two_cells bx69
                go_simp
                refine hK _ _ ?_
                try clear hK K
                refine wpAny_done (by kernel_rfl) ?_ _
                go_wp2_with fail
                go_meet
                exact shrof_leaf on69 om69 bx69 hB69 (fun b hb => by have := bn69 b hb; omega) (by omega)
              exact AllReady.nil
            exact AllReady.nil
          exact AllReady.nil
        exact AllReady.nil
      refine AllReady.cons rfl (fun K hK => ?_) ?_
      · have mk := HMK.out W1
        go_simp
        refine hK _ _ ?_
        try clear hK K
        obtain ⟨V71, hV71⟩ : ∃ V71, World.alloc W1 (.cells (madeCells #[.slice none 0 0] g.length) 54) = V71 := ⟨_, rfl⟩
        try rw [hV71]
        have hB71 : Below A.heap.size A V71 := by rw [← hV71]; exact hB0.alloc hB0.size _
        have c71 := HD.out _ hB71
        have z71 : W1.heap.size < V71.heap.size := by rw [← hV71]; simp
        have om71 : V71.ownsRow A.heap.size 54 1 (.slice (some ⟨W1.heap.size, 0, none⟩) g.length g.length) g.length (vals (noLists g.length)) := by rw [← hV71]; exact made_own hB0.size hgm
        clear hV71
        refine wpAny_ready (rs := [0, 7]) (by kernel_rfl) (by simp) ?_
        refine AllReady.cons rfl (fun K hK => ?_) ?_
        · go_simp
          refine hK _ _ ?_
          try clear hK K
          refine wpAny_ready (rs := [1, 7]) (by kernel_rfl) (by simp) ?_
          refine AllReady.cons rfl (fun K hK => ?_) ?_
          · go_simp
            go_wp2_with (go_at_call 80; refine (HN.out _ (bA.trans (hB71.mono bA.size))).mono ?_; rintro e V73 ⟨na, nc, rfl, on73', hb73⟩; have hB73 : Below A.heap.size A V73 := bstep hB71 hB71.size hb73; have c73 := HD.out _ hB73; have bn73 : ∀ b, (Value.slice na (setL (order7 g)).length nc).ownBlock = some b → V71.heap.size ≤ b ∧ b < V73.heap.size := fun b hb => on73'.lt b hb; have z73 := hb73.size; have on73 := owns_mono on73' hB71.size; have om73 := owns_below om71 hb73)
            try (refine hK _ _ ?_)
            try clear hK K
            refine wpAny_take (i := 6) (v := ?_) rfl (by kernel_rfl) (by kernel_rfl) (by kernel_rfl) (fun _ _ _ h => h) (Or.inl ⟨by kernel_rfl, ?_⟩) ?_
            rotate_left
            focus (intro w; go_simp; first | done | with_reducible rfl)
            try go_simp
            refine wpAny_ready (rs := [7]) (by kernel_rfl) (by simp) ?_
            refine AllReady.cons rfl (fun K hK => ?_) ?_
            · go_simp
              refine hK _ _ ?_
              try clear hK K
              obtain ⟨V74, hV74⟩ : ∃ V74, World.alloc V73 (.cells #[.slice none 0 0, .slice none 0 0] 57) = V74 := ⟨_, rfl⟩
              try rw [hV74]
              have hB74 : Below A.heap.size A V74 := by rw [← hV74]; exact hB73.alloc hB73.size _
              have c74 := HD.out _ hB74
              have z74 : V73.heap.size < V74.heap.size := by rw [← hV74]; simp
              have om74 := owns_below om73 (below1 V73 (.cells #[.slice none 0 0, .slice none 0 0] 57))
              rw [hV74] at om74
              have bx74 : V74.heap[V73.heap.size]? = some (.cells #[.slice none 0 0, .slice none 0 0] 57) := by rw [← hV74]; exact heap_alloc_new _ _
              have on74 := owns_below on73 (below1 V73 (.cells #[.slice none 0 0, .slice none 0 0] 57))
              rw [hV74] at on74
              clear hV74
              refine wpAny_ready (rs := [8]) (by kernel_rfl) (by simp) ?_
              refine AllReady.cons rfl (fun K hK => ?_) ?_
              · obtain ⟨cb75, cc75, fb75, fc75⟩ := two_cells bx74
                go_simp
                refine hK _ _ ?_
                try clear hK K
                refine wpAny_done (by kernel_rfl) ?_ _
                go_wp2_with fail
                go_meet
                exact shrof_leaf on74 om74 bx74 hB74 (fun b hb => by have := bn73 b hb; omega) (by omega)
              exact AllReady.nil
            exact AllReady.nil
          refine AllReady.cons rfl (fun K hK => ?_) ?_
          · go_simp
            refine hK _ _ ?_
            try clear hK K
            obtain ⟨V76, hV76⟩ : ∃ V76, World.alloc V71 (.cells #[.slice none 0 0, .slice none 0 0] 57) = V76 := ⟨_, rfl⟩
            try rw [hV76]
            have hB76 : Below A.heap.size A V76 := by rw [← hV76]; exact hB71.alloc hB71.size _
            have c76 := HD.out _ hB76
            have z76 : V71.heap.size < V76.heap.size := by rw [← hV76]; simp
            have om76 := owns_below om71 (below1 V71 (.cells #[.slice none 0 0, .slice none 0 0] 57))
            rw [hV76] at om76
            have bx76 : V76.heap[V71.heap.size]? = some (.cells #[.slice none 0 0, .slice none 0 0] 57) := by rw [← hV76]; exact heap_alloc_new _ _
            clear hV76
            refine wpAny_ready (rs := [1]) (by kernel_rfl) (by simp) ?_
            refine AllReady.cons rfl (fun K hK => ?_) ?_
            · go_simp
              go_wp2_with (go_at_call 80; refine (HN.out _ (bA.trans (hB76.mono bA.size))).mono ?_; rintro e V77 ⟨na, nc, rfl, on77', hb77⟩; have hB77 : Below A.heap.size A V77 := bstep hB76 hB76.size hb77; have c77 := HD.out _ hB77; have bn77 : ∀ b, (Value.slice na (setL (order7 g)).length nc).ownBlock = some b → V76.heap.size ≤ b ∧ b < V77.heap.size := fun b hb => on77'.lt b hb; have z77 := hb77.size; have on77 := owns_mono on77' hB76.size; have om77 := owns_below om76 hb77; have bx77 := (hb77.block _ (Array.getElem?_eq_some_iff.1 bx76).1).trans bx76)
              try (refine hK _ _ ?_)
              try clear hK K
              refine wpAny_take (i := 6) (v := ?_) rfl (by kernel_rfl) (by kernel_rfl) (by kernel_rfl) (fun _ _ _ h => h) (Or.inl ⟨by kernel_rfl, ?_⟩) ?_
              rotate_left
              focus (intro w; go_simp; first | done | with_reducible rfl)
              try go_simp
              refine wpAny_ready (rs := [8]) (by kernel_rfl) (by simp) ?_
              refine AllReady.cons rfl (fun K hK => ?_) ?_
              · obtain ⟨cb78, cc78, fb78, fc78⟩ := two_cells bx77
                go_simp
                refine hK _ _ ?_
                try clear hK K
                refine wpAny_done (by kernel_rfl) ?_ _
                go_wp2_with fail
                go_meet
                exact shrof_leaf on77 om77 bx77 hB77 (fun b hb => by have := bn77 b hb; omega) (by omega)
              exact AllReady.nil
            exact AllReady.nil
          exact AllReady.nil
        refine AllReady.cons rfl (fun K hK => ?_) ?_
        · go_simp
          refine hK _ _ ?_
          try clear hK K
          obtain ⟨V79, hV79⟩ : ∃ V79, World.alloc V71 (.cells #[.slice none 0 0, .slice none 0 0] 57) = V79 := ⟨_, rfl⟩
          try rw [hV79]
          have hB79 : Below A.heap.size A V79 := by rw [← hV79]; exact hB71.alloc hB71.size _
          have c79 := HD.out _ hB79
          have z79 : V71.heap.size < V79.heap.size := by rw [← hV79]; simp
          have om79 := owns_below om71 (below1 V71 (.cells #[.slice none 0 0, .slice none 0 0] 57))
          rw [hV79] at om79
          have bx79 : V79.heap[V71.heap.size]? = some (.cells #[.slice none 0 0, .slice none 0 0] 57) := by rw [← hV79]; exact heap_alloc_new _ _
          clear hV79
          refine wpAny_ready (rs := [0]) (by kernel_rfl) (by simp) ?_
          refine AllReady.cons rfl (fun K hK => ?_) ?_
          · go_simp
            refine hK _ _ ?_
            try clear hK K
            refine wpAny_ready (rs := [1]) (by kernel_rfl) (by simp) ?_
            refine AllReady.cons rfl (fun K hK => ?_) ?_
            · go_simp
              go_wp2_with (go_at_call 80; refine (HN.out _ (bA.trans (hB79.mono bA.size))).mono ?_; rintro e V81 ⟨na, nc, rfl, on81', hb81⟩; have hB81 : Below A.heap.size A V81 := bstep hB79 hB79.size hb81; have c81 := HD.out _ hB81; have bn81 : ∀ b, (Value.slice na (setL (order7 g)).length nc).ownBlock = some b → V79.heap.size ≤ b ∧ b < V81.heap.size := fun b hb => on81'.lt b hb; have z81 := hb81.size; have on81 := owns_mono on81' hB79.size; have om81 := owns_below om79 hb81; have bx81 := (hb81.block _ (Array.getElem?_eq_some_iff.1 bx79).1).trans bx79)
              try (refine hK _ _ ?_)
              try clear hK K
              refine wpAny_take (i := 6) (v := ?_) rfl (by kernel_rfl) (by kernel_rfl) (by kernel_rfl) (fun _ _ _ h => h) (Or.inl ⟨by kernel_rfl, ?_⟩) ?_
              rotate_left
              focus (intro w; go_simp; first | done | with_reducible rfl)
              try go_simp
              refine wpAny_ready (rs := [8]) (by kernel_rfl) (by simp) ?_
              refine AllReady.cons rfl (fun K hK => ?_) ?_
              · obtain ⟨cb82, cc82, fb82, fc82⟩ := two_cells bx81
                go_simp
                refine hK _ _ ?_
                try clear hK K
                refine wpAny_done (by kernel_rfl) ?_ _
                go_wp2_with fail
                go_meet
                exact shrof_leaf on81 om81 bx81 hB81 (fun b hb => by have := bn81 b hb; omega) (by omega)
              exact AllReady.nil
            exact AllReady.nil
          exact AllReady.nil
        exact AllReady.nil
      refine AllReady.cons rfl (fun K hK => ?_) ?_
      · go_simp
        refine hK _ _ ?_
        try clear hK K
        obtain ⟨V83, hV83⟩ : ∃ V83, World.alloc W1 (.cells #[.slice none 0 0, .slice none 0 0] 57) = V83 := ⟨_, rfl⟩
        try rw [hV83]
        have hB83 : Below A.heap.size A V83 := by rw [← hV83]; exact hB0.alloc hB0.size _
        have c83 := HD.out _ hB83
        have z83 : W1.heap.size < V83.heap.size := by rw [← hV83]; simp
        have bx83 : V83.heap[W1.heap.size]? = some (.cells #[.slice none 0 0, .slice none 0 0] 57) := by rw [← hV83]; exact heap_alloc_new _ _
        clear hV83
        refine wpAny_ready (rs := [0, 5]) (by kernel_rfl) (by simp) ?_
        refine AllReady.cons rfl (fun K hK => ?_) ?_
        · go_simp
          refine hK _ _ ?_
          try clear hK K
          refine wpAny_ready (rs := [1, 5]) (by kernel_rfl) (by simp) ?_
          refine AllReady.cons rfl (fun K hK => ?_) ?_
          · go_simp
            go_wp2_with (go_at_call 80; refine (HN.out _ (bA.trans (hB83.mono bA.size))).mono ?_; rintro e V85 ⟨na, nc, rfl, on85', hb85⟩; have hB85 : Below A.heap.size A V85 := bstep hB83 hB83.size hb85; have c85 := HD.out _ hB85; have bn85 : ∀ b, (Value.slice na (setL (order7 g)).length nc).ownBlock = some b → V83.heap.size ≤ b ∧ b < V85.heap.size := fun b hb => on85'.lt b hb; have z85 := hb85.size; have on85 := owns_mono on85' hB83.size; have bx85 := (hb85.block _ (Array.getElem?_eq_some_iff.1 bx83).1).trans bx83)
            try (refine hK _ _ ?_)
            try clear hK K
            refine wpAny_ready (rs := [5]) (by kernel_rfl) (by simp) ?_
            refine AllReady.cons rfl (fun K hK => ?_) ?_
            · have mk := HMK.out V85
              go_simp
              refine hK _ _ ?_
              try clear hK K
              obtain ⟨V86, hV86⟩ : ∃ V86, World.alloc V85 (.cells (madeCells #[.slice none 0 0] g.length) 54) = V86 := ⟨_, rfl⟩
              try rw [hV86]
              have hB86 : Below A.heap.size A V86 := by rw [← hV86]; exact hB85.alloc hB85.size _
              have c86 := HD.out _ hB86
              have z86 : V85.heap.size < V86.heap.size := by rw [← hV86]; simp
              have om86 : V86.ownsRow A.heap.size 54 1 (.slice (some ⟨V85.heap.size, 0, none⟩) g.length g.length) g.length (vals (noLists g.length)) := by rw [← hV86]; exact made_own hB85.size hgm
              have bx86 := ((below1 V85 (.cells (madeCells #[.slice none 0 0] g.length) 54)).block _ (Array.getElem?_eq_some_iff.1 bx85).1).trans bx85
              rw [hV86] at bx86
              have on86 := owns_below on85 (below1 V85 (.cells (madeCells #[.slice none 0 0] g.length) 54))
              rw [hV86] at on86
              clear hV86
              refine wpAny_take (i := 6) (v := ?_) rfl (by kernel_rfl) (by kernel_rfl) (by kernel_rfl) (fun _ _ _ h => h) (Or.inl ⟨by kernel_rfl, ?_⟩) ?_
              rotate_left
              focus (intro w; go_simp; first | done | with_reducible rfl)
              try go_simp
              refine wpAny_ready (rs := [8]) (by kernel_rfl) (by simp) ?_
              refine AllReady.cons rfl (fun K hK => ?_) ?_
              · obtain ⟨cb87, cc87, fb87, fc87⟩ := two_cells bx86
                go_simp
                refine hK _ _ ?_
                try clear hK K
                refine wpAny_done (by kernel_rfl) ?_ _
                go_wp2_with fail
                go_meet
                exact shrof_leaf on86 om86 bx86 hB86 (fun b hb => by have := bn85 b hb; omega) (by omega)
              exact AllReady.nil
            exact AllReady.nil
          refine AllReady.cons rfl (fun K hK => ?_) ?_
          · have mk := HMK.out V83
            go_simp
            refine hK _ _ ?_
            try clear hK K
            obtain ⟨V88, hV88⟩ : ∃ V88, World.alloc V83 (.cells (madeCells #[.slice none 0 0] g.length) 54) = V88 := ⟨_, rfl⟩
            try rw [hV88]
            have hB88 : Below A.heap.size A V88 := by rw [← hV88]; exact hB83.alloc hB83.size _
            have c88 := HD.out _ hB88
            have z88 : V83.heap.size < V88.heap.size := by rw [← hV88]; simp
            have om88 : V88.ownsRow A.heap.size 54 1 (.slice (some ⟨V83.heap.size, 0, none⟩) g.length g.length) g.length (vals (noLists g.length)) := by rw [← hV88]; exact made_own hB83.size hgm
            have bx88 := ((below1 V83 (.cells (madeCells #[.slice none 0 0] g.length) 54)).block _ (Array.getElem?_eq_some_iff.1 bx83).1).trans bx83
            rw [hV88] at bx88
            clear hV88
            refine wpAny_ready (rs := [1]) (by kernel_rfl) (by simp) ?_
            refine AllReady.cons rfl (fun K hK => ?_) ?_
            · go_simp
              go_wp2_with (go_at_call 80; refine (HN.out _ (bA.trans (hB88.mono bA.size))).mono ?_; rintro e V89 ⟨na, nc, rfl, on89', hb89⟩; have hB89 : Below A.heap.size A V89 := bstep hB88 hB88.size hb89; have c89 := HD.out _ hB89; have bn89 : ∀ b, (Value.slice na (setL (order7 g)).length nc).ownBlock = some b → V88.heap.size ≤ b ∧ b < V89.heap.size := fun b hb => on89'.lt b hb; have z89 := hb89.size; have on89 := owns_mono on89' hB88.size; have om89 := owns_below om88 hb89; have bx89 := (hb89.block _ (Array.getElem?_eq_some_iff.1 bx88).1).trans bx88)
              try (refine hK _ _ ?_)
              try clear hK K
              refine wpAny_take (i := 6) (v := ?_) rfl (by kernel_rfl) (by kernel_rfl) (by kernel_rfl) (fun _ _ _ h => h) (Or.inl ⟨by kernel_rfl, ?_⟩) ?_
              rotate_left
              focus (intro w; go_simp; first | done | with_reducible rfl)
              try go_simp
              refine wpAny_ready (rs := [8]) (by kernel_rfl) (by simp) ?_
              refine AllReady.cons rfl (fun K hK => ?_) ?_
              · obtain ⟨cb90, cc90, fb90, fc90⟩ := two_cells bx89
                go_simp
                refine hK _ _ ?_
                try clear hK K
                refine wpAny_done (by kernel_rfl) ?_ _
                go_wp2_with fail
                go_meet
                exact shrof_leaf on89 om89 bx89 hB89 (fun b hb => by have := bn89 b hb; omega) (by omega)
              exact AllReady.nil
            exact AllReady.nil
          exact AllReady.nil
        refine AllReady.cons rfl (fun K hK => ?_) ?_
        · have mk := HMK.out V83
          go_simp
          refine hK _ _ ?_
          try clear hK K
          obtain ⟨V91, hV91⟩ : ∃ V91, World.alloc V83 (.cells (madeCells #[.slice none 0 0] g.length) 54) = V91 := ⟨_, rfl⟩
          try rw [hV91]
          have hB91 : Below A.heap.size A V91 := by rw [← hV91]; exact hB83.alloc hB83.size _
          have c91 := HD.out _ hB91
          have z91 : V83.heap.size < V91.heap.size := by rw [← hV91]; simp
          have om91 : V91.ownsRow A.heap.size 54 1 (.slice (some ⟨V83.heap.size, 0, none⟩) g.length g.length) g.length (vals (noLists g.length)) := by rw [← hV91]; exact made_own hB83.size hgm
          have bx91 := ((below1 V83 (.cells (madeCells #[.slice none 0 0] g.length) 54)).block _ (Array.getElem?_eq_some_iff.1 bx83).1).trans bx83
          rw [hV91] at bx91
          clear hV91
          refine wpAny_ready (rs := [0]) (by kernel_rfl) (by simp) ?_
          refine AllReady.cons rfl (fun K hK => ?_) ?_
          · go_simp
            refine hK _ _ ?_
            try clear hK K
            refine wpAny_ready (rs := [1]) (by kernel_rfl) (by simp) ?_
            refine AllReady.cons rfl (fun K hK => ?_) ?_
            · go_simp
              go_wp2_with (go_at_call 80; refine (HN.out _ (bA.trans (hB91.mono bA.size))).mono ?_; rintro e V93 ⟨na, nc, rfl, on93', hb93⟩; have hB93 : Below A.heap.size A V93 := bstep hB91 hB91.size hb93; have c93 := HD.out _ hB93; have bn93 : ∀ b, (Value.slice na (setL (order7 g)).length nc).ownBlock = some b → V91.heap.size ≤ b ∧ b < V93.heap.size := fun b hb => on93'.lt b hb; have z93 := hb93.size; have on93 := owns_mono on93' hB91.size; have om93 := owns_below om91 hb93; have bx93 := (hb93.block _ (Array.getElem?_eq_some_iff.1 bx91).1).trans bx91)
              try (refine hK _ _ ?_)
              try clear hK K
              refine wpAny_take (i := 6) (v := ?_) rfl (by kernel_rfl) (by kernel_rfl) (by kernel_rfl) (fun _ _ _ h => h) (Or.inl ⟨by kernel_rfl, ?_⟩) ?_
              rotate_left
              focus (intro w; go_simp; first | done | with_reducible rfl)
              try go_simp
              refine wpAny_ready (rs := [8]) (by kernel_rfl) (by simp) ?_
              refine AllReady.cons rfl (fun K hK => ?_) ?_
              · obtain ⟨cb94, cc94, fb94, fc94⟩ := two_cells bx93
                go_simp
                refine hK _ _ ?_
                try clear hK K
                refine wpAny_done (by kernel_rfl) ?_ _
                go_wp2_with fail
                go_meet
                exact shrof_leaf on93 om93 bx93 hB93 (fun b hb => by have := bn93 b hb; omega) (by omega)
              exact AllReady.nil
            exact AllReady.nil
          exact AllReady.nil
        exact AllReady.nil
      exact AllReady.nil
    refine AllReady.cons rfl (fun K hK => ?_) ?_
    · go_simp
      refine hK _ _ ?_
      try clear hK K
      obtain ⟨V95, hV95⟩ : ∃ V95, World.alloc W1 (.cells #[.slice none 0 0, .slice none 0 0] 57) = V95 := ⟨_, rfl⟩
      try rw [hV95]
      have hB95 : Below A.heap.size A V95 := by rw [← hV95]; exact hB0.alloc hB0.size _
      have c95 := HD.out _ hB95
      have z95 : W1.heap.size < V95.heap.size := by rw [← hV95]; simp
      have bx95 : V95.heap[W1.heap.size]? = some (.cells #[.slice none 0 0, .slice none 0 0] 57) := by rw [← hV95]; exact heap_alloc_new _ _
      clear hV95
      refine wpAny_ready (rs := [0, 3]) (by kernel_rfl) (by simp) ?_
      refine AllReady.cons rfl (fun K hK => ?_) ?_
      · go_simp
        refine hK _ _ ?_
        try clear hK K
        refine wpAny_ready (rs := [1, 3]) (by kernel_rfl) (by simp) ?_
        refine AllReady.cons rfl (fun K hK => ?_) ?_
        · go_simp
          go_wp2_with (go_at_call 80; refine (HN.out _ (bA.trans (hB95.mono bA.size))).mono ?_; rintro e V97 ⟨na, nc, rfl, on97', hb97⟩; have hB97 : Below A.heap.size A V97 := bstep hB95 hB95.size hb97; have c97 := HD.out _ hB97; have bn97 : ∀ b, (Value.slice na (setL (order7 g)).length nc).ownBlock = some b → V95.heap.size ≤ b ∧ b < V97.heap.size := fun b hb => on97'.lt b hb; have z97 := hb97.size; have on97 := owns_mono on97' hB95.size; have bx97 := (hb97.block _ (Array.getElem?_eq_some_iff.1 bx95).1).trans bx95)
          try (refine hK _ _ ?_)
          try clear hK K
          refine wpAny_ready (rs := [3]) (by kernel_rfl) (by simp) ?_
          refine AllReady.cons rfl (fun K hK => ?_) ?_
          · go_simp
            refine hK _ _ ?_
            try clear hK K
            refine wpAny_take (i := 4) (v := ?_) rfl (by kernel_rfl) (by kernel_rfl) (by kernel_rfl) (fun _ _ _ h => h) (Or.inl ⟨by kernel_rfl, ?_⟩) ?_
            rotate_left
            focus (intro w; go_simp; first | done | with_reducible rfl)
            try go_simp
            refine wpAny_ready (rs := [5]) (by kernel_rfl) (by simp) ?_
            refine AllReady.cons rfl (fun K hK => ?_) ?_
            · have mk := HMK.out V97
              go_simp
              refine hK _ _ ?_
              try clear hK K
              obtain ⟨V99, hV99⟩ : ∃ V99, World.alloc V97 (.cells (madeCells #[.slice none 0 0] g.length) 54) = V99 := ⟨_, rfl⟩
              try rw [hV99]
              have hB99 : Below A.heap.size A V99 := by rw [← hV99]; exact hB97.alloc hB97.size _
              have c99 := HD.out _ hB99
              have z99 : V97.heap.size < V99.heap.size := by rw [← hV99]; simp
              have om99 : V99.ownsRow A.heap.size 54 1 (.slice (some ⟨V97.heap.size, 0, none⟩) g.length g.length) g.length (vals (noLists g.length)) := by rw [← hV99]; exact made_own hB97.size hgm
              have bx99 := ((below1 V97 (.cells (madeCells #[.slice none 0 0] g.length) 54)).block _ (Array.getElem?_eq_some_iff.1 bx97).1).trans bx97
              rw [hV99] at bx99
              have on99 := owns_below on97 (below1 V97 (.cells (madeCells #[.slice none 0 0] g.length) 54))
              rw [hV99] at on99
              clear hV99
              refine wpAny_take (i := 6) (v := ?_) rfl (by kernel_rfl) (by kernel_rfl) (by kernel_rfl) (fun _ _ _ h => h) (Or.inl ⟨by kernel_rfl, ?_⟩) ?_
              rotate_left
              focus (intro w; go_simp; first | done | with_reducible rfl)
              try go_simp
              refine wpAny_ready (rs := [8]) (by kernel_rfl) (by simp) ?_
              refine AllReady.cons rfl (fun K hK => ?_) ?_
              · obtain ⟨cb100, cc100, fb100, fc100⟩ := two_cells bx99
                go_simp
                refine hK _ _ ?_
                try clear hK K
                refine wpAny_done (by kernel_rfl) ?_ _
                go_wp2_with fail
                go_meet
                exact shrof_leaf on99 om99 bx99 hB99 (fun b hb => by have := bn97 b hb; omega) (by omega)
              exact AllReady.nil
            exact AllReady.nil
          exact AllReady.nil
        refine AllReady.cons rfl (fun K hK => ?_) ?_
        · go_simp
          refine hK _ _ ?_
          try clear hK K
          refine wpAny_take (i := 4) (v := ?_) rfl (by kernel_rfl) (by kernel_rfl) (by kernel_rfl) (fun _ _ _ h => h) (Or.inl ⟨by kernel_rfl, ?_⟩) ?_
          rotate_left
          focus (intro w; go_simp; first | done | with_reducible rfl)
          try go_simp
          refine wpAny_ready (rs := [1, 5]) (by kernel_rfl) (by simp) ?_
          refine AllReady.cons rfl (fun K hK => ?_) ?_
          · go_simp
            go_wp2_with (go_at_call 80; refine (HN.out _ (bA.trans (hB95.mono bA.size))).mono ?_; rintro e V102 ⟨na, nc, rfl, on102', hb102⟩; have hB102 : Below A.heap.size A V102 := bstep hB95 hB95.size hb102; have c102 := HD.out _ hB102; have bn102 : ∀ b, (Value.slice na (setL (order7 g)).length nc).ownBlock = some b → V95.heap.size ≤ b ∧ b < V102.heap.size := fun b hb => on102'.lt b hb; have z102 := hb102.size; have on102 := owns_mono on102' hB95.size; have bx102 := (hb102.block _ (Array.getElem?_eq_some_iff.1 bx95).1).trans bx95)
            try (refine hK _ _ ?_)
            try clear hK K
            refine wpAny_ready (rs := [5]) (by kernel_rfl) (by simp) ?_
            refine AllReady.cons rfl (fun K hK => ?_) ?_
            · have mk := HMK.out V102
              go_simp
              refine hK _ _ ?_
              try clear hK K
              obtain ⟨V103, hV103⟩ : ∃ V103, World.alloc V102 (.cells (madeCells #[.slice none 0 0] g.length) 54) = V103 := ⟨_, rfl⟩
              try rw [hV103]
              have hB103 : Below A.heap.size A V103 := by rw [← hV103]; exact hB102.alloc hB102.size _
              have c103 := HD.out _ hB103
              have z103 : V102.heap.size < V103.heap.size := by rw [← hV103]; simp
              have om103 : V103.ownsRow A.heap.size 54 1 (.slice (some ⟨V102.heap.size, 0, none⟩) g.length g.length) g.length (vals (noLists g.length)) := by rw [← hV103]; exact made_own hB102.size hgm
              have bx103 := ((below1 V102 (.cells (madeCells #[.slice none 0 0] g.length) 54)).block _ (Array.getElem?_eq_some_iff.1 bx102).1).trans bx102
              rw [hV103] at bx103
              have on103 := owns_below on102 (below1 V102 (.cells (madeCells #[.slice none 0 0] g.length) 54))
              rw [hV103] at on103
              clear hV103
              refine wpAny_take (i := 6) (v := ?_) rfl (by kernel_rfl) (by kernel_rfl) (by kernel_rfl) (fun _ _ _ h => h) (Or.inl ⟨by kernel_rfl, ?_⟩) ?_
              rotate_left
              focus (intro w; go_simp; first | done | with_reducible rfl)
              try go_simp
              refine wpAny_ready (rs := [8]) (by kernel_rfl) (by simp) ?_
              refine AllReady.cons rfl (fun K hK => ?_) ?_
              · obtain ⟨cb104, cc104, fb104, fc104⟩ := two_cells bx103
                go_simp
                refine hK _ _ ?_
                try clear hK K
                refine wpAny_done (by kernel_rfl) ?_ _
                go_wp2_with fail
                go_meet
                exact shrof_leaf on103 om103 bx103 hB103 (fun b hb => by have := bn102 b hb; omega) (by omega)
              exact AllReady.nil
            exact AllReady.nil
          refine AllReady.cons rfl (fun K hK => ?_) ?_
          · have mk := HMK.out V95
            go_simp
            refine hK _ _ ?_
            try clear hK K
            obtain ⟨V105, hV105⟩ : ∃ V105, World.alloc V95 (.cells (madeCells #[.slice none 0 0] g.length) 54) = V105 := ⟨_, rfl⟩
            try rw [hV105]
            have hB105 : Below A.heap.size A V105 := by rw [← hV105]; exact hB95.alloc hB95.size _
            have c105 := HD.out _ hB105
            have z105 : V95.heap.size < V105.heap.size := by rw [← hV105]; simp
            have om105 : V105.ownsRow A.heap.size 54 1 (.slice (some ⟨V95.heap.size, 0, none⟩) g.length g.length) g.length (vals (noLists g.length)) := by rw [← hV105]; exact made_own hB95.size hgm
            have bx105 := ((below1 V95 (.cells (madeCells #[.slice none 0 0] g.length) 54)).block _ (Array.getElem?_eq_some_iff.1 bx95).1).trans bx95
            rw [hV105] at bx105
            clear hV105
            refine wpAny_ready (rs := [1]) (by kernel_rfl) (by simp) ?_
            refine AllReady.cons rfl (fun K hK => ?_) ?_
            · go_simp
              go_wp2_with (go_at_call 80; refine (HN.out _ (bA.trans (hB105.mono bA.size))).mono ?_; rintro e V106 ⟨na, nc, rfl, on106', hb106⟩; have hB106 : Below A.heap.size A V106 := bstep hB105 hB105.size hb106; have c106 := HD.out _ hB106; have bn106 : ∀ b, (Value.slice na (setL (order7 g)).length nc).ownBlock = some b → V105.heap.size ≤ b ∧ b < V106.heap.size := fun b hb => on106'.lt b hb; have z106 := hb106.size; have on106 := owns_mono on106' hB105.size; have om106 := owns_below om105 hb106; have bx106 := (hb106.block _ (Array.getElem?_eq_some_iff.1 bx105).1).trans bx105)
              try (refine hK _ _ ?_)
              try clear hK K
              refine wpAny_take (i := 6) (v := ?_) rfl (by kernel_rfl) (by kernel_rfl) (by kernel_rfl) (fun _ _ _ h => h) (Or.inl ⟨by kernel_rfl, ?_⟩) ?_
              rotate_left
              focus (intro w; go_simp; first | done | with_reducible rfl)
              try go_simp
              refine wpAny_ready (rs := [8]) (by kernel_rfl) (by simp) ?_
              refine AllReady.cons rfl (fun K hK => ?_) ?_
              · obtain ⟨cb107, cc107, fb107, fc107⟩ := two_cells bx106
                go_simp
                refine hK _ _ ?_
                try clear hK K
                refine wpAny_done (by kernel_rfl) ?_ _
                go_wp2_with fail
                go_meet
                exact shrof_leaf on106 om106 bx106 hB106 (fun b hb => by have := bn106 b hb; omega) (by omega)
              exact AllReady.nil
            exact AllReady.nil
          exact AllReady.nil
        exact AllReady.nil
      refine AllReady.cons rfl (fun K hK => ?_) ?_
      · go_simp
        refine hK _ _ ?_
        try clear hK K
        refine wpAny_take (i := 4) (v := ?_) rfl (by kernel_rfl) (by kernel_rfl) (by kernel_rfl) (fun _ _ _ h => h) (Or.inl ⟨by kernel_rfl, ?_⟩) ?_
        rotate_left
        focus (intro w; go_simp; first | done | with_reducible rfl)
        try go_simp
        refine wpAny_ready (rs := [0, 5]) (by kernel_rfl) (by simp) ?_
        refine AllReady.cons rfl (fun K hK => ?_) ?_
        · go_simp
          refine hK _ _ ?_
          try clear hK K
          refine wpAny_ready (rs := [1, 5]) (by kernel_rfl) (by simp) ?_
          refine AllReady.cons rfl (fun K hK => ?_) ?_
          · go_simp
            go_wp2_with (go_at_call 80; refine (HN.out _ (bA.trans (hB95.mono bA.size))).mono ?_; rintro e V110 ⟨na, nc, rfl, on110', hb110⟩; have hB110 : Below A.heap.size A V110 := bstep hB95 hB95.size hb110; have c110 := HD.out _ hB110; have bn110 : ∀ b, (Value.slice na (setL (order7 g)).length nc).ownBlock = some b → V95.heap.size ≤ b ∧ b < V110.heap.size := fun b hb => on110'.lt b hb; have z110 := hb110.size; have on110 := owns_mono on110' hB95.size; have bx110 := (hb110.block _ (Array.getElem?_eq_some_iff.1 bx95).1).trans bx95)
            try (refine hK _ _ ?_)
            try clear hK K
            refine wpAny_ready (rs := [5]) (by kernel_rfl) (by simp) ?_
            refine AllReady.cons rfl (fun K hK => ?_) ?_
            · have mk := HMK.out V110
              go_simp
              refine hK _ _ ?_
              try clear hK K
              obtain ⟨V111, hV111⟩ : ∃ V111, World.alloc V110 (.cells (madeCells #[.slice none 0 0] g.length) 54) = V111 := ⟨_, rfl⟩
              try rw [hV111]
              have hB111 : Below A.heap.size A V111 := by rw [← hV111]; exact hB110.alloc hB110.size _
              have c111 := HD.out _ hB111
              have z111 : V110.heap.size < V111.heap.size := by rw [← hV111]; simp
              have om111 : V111.ownsRow A.heap.size 54 1 (.slice (some ⟨V110.heap.size, 0, none⟩) g.length g.length) g.length (vals (noLists g.length)) := by rw [← hV111]; exact made_own hB110.size hgm
              have bx111 := ((below1 V110 (.cells (madeCells #[.slice none 0 0] g.length) 54)).block _ (Array.getElem?_eq_some_iff.1 bx110).1).trans bx110
              rw [hV111] at bx111
              have on111 := owns_below on110 (below1 V110 (.cells (madeCells #[.slice none 0 0] g.length) 54))
              rw [hV111] at on111
              clear hV111
              refine wpAny_take (i := 6) (v := ?_) rfl (by kernel_rfl) (by kernel_rfl) (by kernel_rfl) (fun _ _ _ h => h) (Or.inl ⟨by kernel_rfl, ?_⟩) ?_
              rotate_left
              focus (intro w; go_simp; first | done | with_reducible rfl)
              try go_simp
              refine wpAny_ready (rs := [8]) (by kernel_rfl) (by simp) ?_
              refine AllReady.cons rfl (fun K hK => ?_) ?_
              · obtain ⟨cb112, cc112, fb112, fc112⟩ := two_cells bx111
                go_simp
                refine hK _ _ ?_
                try clear hK K
                refine wpAny_done (by kernel_rfl) ?_ _
                go_wp2_with fail
                go_meet
                exact shrof_leaf on111 om111 bx111 hB111 (fun b hb => by have := bn110 b hb; omega) (by omega)
              exact AllReady.nil
            exact AllReady.nil
          refine AllReady.cons rfl (fun K hK => ?_) ?_
          · have mk := HMK.out V95
            go_simp
            refine hK _ _ ?_
            try clear hK K
            obtain ⟨V113, hV113⟩ : ∃ V113, World.alloc V95 (.cells (madeCells #[.slice none 0 0] g.length) 54) = V113 := ⟨_, rfl⟩
            try rw [hV113]
            have hB113 : Below A.heap.size A V113 := by rw [← hV113]; exact hB95.alloc hB95.size _
            have c113 := HD.out _ hB113
            have z113 : V95.heap.size < V113.heap.size := by rw [← hV113]; simp
            have om113 : V113.ownsRow A.heap.size 54 1 (.slice (some ⟨V95.heap.size, 0, none⟩) g.length g.length) g.length (vals (noLists g.length)) := by rw [← hV113]; exact made_own hB95.size hgm
            have bx113 := ((below1 V95 (.cells (madeCells #[.slice none 0 0] g.length) 54)).block _ (Array.getElem?_eq_some_iff.1 bx95).1).trans bx95
            rw [hV113] at bx113
            clear hV113
            refine wpAny_ready (rs := [1]) (by kernel_rfl) (by simp) ?_
            refine AllReady.cons rfl (fun K hK => ?_) ?_
            · go_simp
              go_wp2_with (go_at_call 80; refine (HN.out _ (bA.trans (hB113.mono bA.size))).mono ?_; rintro e V114 ⟨na, nc, rfl, on114', hb114⟩; have hB114 : Below A.heap.size A V114 := bstep hB113 hB113.size hb114; have c114 := HD.out _ hB114; have bn114 : ∀ b, (Value.slice na (setL (order7 g)).length nc).ownBlock = some b → V113.heap.size ≤ b ∧ b < V114.heap.size := fun b hb => on114'.lt b hb; have z114 := hb114.size; have on114 := owns_mono on114' hB113.size; have om114 := owns_below om113 hb114; have bx114 := (hb114.block _ (Array.getElem?_eq_some_iff.1 bx113).1).trans bx113)
              try (refine hK _ _ ?_)
              try clear hK K
              refine wpAny_take (i := 6) (v := ?_) rfl (by kernel_rfl) (by kernel_rfl) (by kernel_rfl) (fun _ _ _ h => h) (Or.inl ⟨by kernel_rfl, ?_⟩) ?_
              rotate_left
              focus (intro w; go_simp; first | done | with_reducible rfl)
              try go_simp
              refine wpAny_ready (rs := [8]) (by kernel_rfl) (by simp) ?_
              refine AllReady.cons rfl (fun K hK => ?_) ?_
              · obtain ⟨cb115, cc115, fb115, fc115⟩ := two_cells bx114
                go_simp
                refine hK _ _ ?_
                try clear hK K
                refine wpAny_done (by kernel_rfl) ?_ _
                go_wp2_with fail
                go_meet
                exact shrof_leaf on114 om114 bx114 hB114 (fun b hb => by have := bn114 b hb; omega) (by omega)
              exact AllReady.nil
            exact AllReady.nil
          exact AllReady.nil
        refine AllReady.cons rfl (fun K hK => ?_) ?_
        · have mk := HMK.out V95
          go_simp
          refine hK _ _ ?_
          try clear hK K
          obtain ⟨V116, hV116⟩ : ∃ V116, World.alloc V95 (.cells (madeCells #[.slice none 0 0] g.length) 54) = V116 := ⟨_, rfl⟩
          try rw [hV116]
          have hB116 : Below A.heap.size A V116 := by rw [← hV116]; exact hB95.alloc hB95.size _
          have c116 := HD.out _ hB116
          have z116 : V95.heap.size < V116.heap.size := by rw [← hV116]; simp
          have om116 : V116.ownsRow A.heap.size 54 1 (.slice (some ⟨V95.heap.size, 0, none⟩) g.length g.length) g.length (vals (noLists g.length)) := by rw [← hV116]; exact made_own hB95.size hgm
          have bx116 := ((below1 V95 (.cells (madeCells #[.slice none 0 0] g.length) 54)).block _ (Array.getElem?_eq_some_iff.1 bx95).1).trans bx95
          rw [hV116] at bx116
          clear hV116
          refine wpAny_ready (rs := [0]) (by kernel_rfl) (by simp) ?_
          refine AllReady.cons rfl (fun K hK => ?_) ?_
          · go_simp
            refine hK _ _ ?_
            try clear hK K
            refine wpAny_ready (rs := [1]) (by kernel_rfl) (by simp) ?_
            refine AllReady.cons rfl (fun K hK => ?_) ?_
            · go_simp
              go_wp2_with (go_at_call 80; refine (HN.out _ (bA.trans (hB116.mono bA.size))).mono ?_; rintro e V118 ⟨na, nc, rfl, on118', hb118⟩; have hB118 : Below A.heap.size A V118 := bstep hB116 hB116.size hb118; have c118 := HD.out _ hB118; have bn118 : ∀ b, (Value.slice na (setL (order7 g)).length nc).ownBlock = some b → V116.heap.size ≤ b ∧ b < V118.heap.size := fun b hb => on118'.lt b hb; have z118 := hb118.size; have on118 := owns_mono on118' hB116.size; have om118 := owns_below om116 hb118; have bx118 := (hb118.block _ (Array.getElem?_eq_some_iff.1 bx116).1).trans bx116)
              try (refine hK _ _ ?_)
              try clear hK K
              refine wpAny_take (i := 6) (v := ?_) rfl (by kernel_rfl) (by kernel_rfl) (by kernel_rfl) (fun _ _ _ h => h) (Or.inl ⟨by kernel_rfl, ?_⟩) ?_
              rotate_left
              focus (intro w; go_simp; first | done | with_reducible rfl)
              try go_simp
              refine wpAny_ready (rs := [8]) (by kernel_rfl) (by simp) ?_
              refine AllReady.cons rfl (fun K hK => ?_) ?_
              · obtain ⟨cb119, cc119, fb119, fc119⟩ := two_cells bx118
                go_simp
                refine hK _ _ ?_
                try clear hK K
                refine wpAny_done (by kernel_rfl) ?_ _
                go_wp2_with fail
                go_meet
                exact shrof_leaf on118 om118 bx118 hB118 (fun b hb => by have := bn118 b hb; omega) (by omega)
              exact AllReady.nil
            exact AllReady.nil
          exact AllReady.nil
        exact AllReady.nil
      exact AllReady.nil
    exact AllReady.nil
  case rest =>
    obtain ⟨W2, hW2⟩ : ∃ W2 : World, W2 = wc := ⟨_, rfl⟩
    subst hW2
    obtain ⟨tb, pb, nv, rfl, hs, hbA⟩ := hcut
    obtain ⟨zA, xt⟩ := HZA.out
    have d2 := HD.out _ hbA
    have hW2 : Below w.heap.size w W2 := bA.trans (hbA.mono (by omega))
    have xt2 : W2.heap[w.heap.size + 1]? = some (.cells #[.slice none 0 0, .slice none 0 0] 57) := (hbA.block _ (by omega)).trans xt
    have zz := hbA.size
    have h0 : Shr W2 A.heap.size tb pb g.length g.length nv (setL (order7 g)) (noLists g.length) (List.replicate g.length []) := ⟨hs, lists_noLists _, ⟨by simp, fun b r hr => by
      obtain rfl : r = [] := List.eq_of_mem_replicate (List.mem_of_getElem? hr)
      exact ⟨List.Pairwise.nil, by simp⟩⟩, setL_rising _, fun x hx => order_lt G x ((setL_mem _ _).1 hx)⟩
    have H0 := hid h0
    have HPB : Hid (A.heap.size ≤ pb ∧ pb < W2.heap.size) := H0.out.cells.2.2.2.2
    clear hs h0 hbA HD HMK xt dA HN
    go_wp2_with (go_at_call 63; refine (edgesIn_any _ _ _ _).mono ?_; rintro e w' ⟨rfl, rfl⟩)
    refine (wpIn_wide (n := 8)).1 ?_
    obtain ⟨X, hX⟩ : ∃ X, (W2.alloc (Obj.cells #[Value.slice a g.length c] 28)) = X := ⟨_, rfl⟩
    have zX : X.heap.size = W2.heap.size + 1 := by rw [← hX]; simp
    have bX : Below W2.heap.size W2 X := by rw [← hX]; exact below1 _ _
    have xg : X.cell? ⟨W2.heap.size, 0, none⟩ = some (.slice a g.length c) := by rw [← hX]; simp [go_sem]
    rw [hX]
    have BX : Below w.heap.size w X := hW2.trans (bX.mono (by omega))
    have HX := hid (H0.out.below bX)
    have xtX : X.heap[w.heap.size + 1]? = some (.cells #[.slice none 0 0, .slice none 0 0] 57) := (bX.block _ (by omega)).trans xt2
    clear hX H0
    refine range_own rfl (by omega) (gf := 92) (lb := #[.pointer (some ⟨W2.heap.size, 0, none⟩)]) rfl trivial (enters_of Try.func92 (by kernel_rfl) rfl)
      (edges_own G a c (fun e => Lead g e.1 e.2) (edges_lead G) (order_lt G) (dfs_len G).1 _ (by omega) W2.heap.size (fun k => k < w.heap.size ∨ k = W2.heap.size) w X H.out BX (fun k hk => .inl hk) (.inr rfl) (fun k hk => by omega) xg) (fun k hk => by omega) (Below.refl _ _) (fun _ => rfl)
      (fun T pre V => ∃ ys N, Shr V A.heap.size tb pb g.length g.length nv (setL (order7 g)) ys N ∧ Went g.length (pre.map (·.1)) N ∧ (∀ y ∈ ys, ∀ b, y.v.ownBlock = some b → T ≤ b) ∧ V.heap[w.heap.size + 1]? = some (.cells #[.slice none 0 0, .slice none 0 0] 57) ∧ Below w.heap.size w V ∧ T ≤ V.heap.size ∧ X.heap.size ≤ T)
      (fun _ _ _ => False)
      (fun T s A1 A2 row hs hg hr => by
        obtain ⟨ys, N, h1, h2, h3, h4, h5, h6, h7⟩ := hs
        exact ⟨ys, N, ⟨Sep.calm h1.sep hg (fun r e => (hr r e).2), h1.lst, h1.isN, h1.rise, h1.lt⟩, h2, h3, (hg.block _ (Array.getElem?_eq_some_iff.1 h4).1 (fun e => by have := (hr _ e.symm).1; omega)).trans h4, h5.grown hg h5.size (fun k e => by have := (hr _ e).1; omega), Nat.le_trans h6 hg.size, h7⟩)
      (fun _ _ _ _ _ hs _ _ => hs)
      (fun W' hg => ⟨noLists g.length, List.replicate g.length [], ⟨Sep.calm HX.out.sep hg (fun r e => by cases e), HX.out.lst, HX.out.isN, HX.out.rise, HX.out.lt⟩, Went.begin _, fun y hy b hb => (by obtain rfl : y = ⟨[], .slice none 0 0⟩ := List.eq_of_mem_replicate hy; cases hb), (hg.block _ (by omega) (fun e => by cases e)).trans xtX, BX.grown hg BX.size (fun k e => by cases e), Nat.le_refl _, hg.size⟩)
      (fun x => { tmps := #[Value.agg #[Value.slice a g.length c], Value.pointer (some { block := w.heap.size, off := 0 }), Value.pointer (some { block := w.heap.size + 1, off := 0 }), Value.pointer (some { block := tb, off := 0 }), .int .i64 (x.1.1 : Int), .int .i64 (x.1.2 : Int), u6, u7, u8, u9, u10, u11, u12, Value.agg #[Value.slice a g.length c], Value.func (Fn.func 92) #[] #[Value.pointer (some { block := W2.heap.size, off := 0 })], .int .i64 (x.1.1 : Int), .int .i64 (x.1.2 : Int), undef, undef, undef, undef, undef, undef, undef], defers := [] }) ?assign ?body ?done ?stop
    case assign =>
      intro l x W K hK
      gi_wp2
      exact hK
    case body =>
      rintro l T pre x V hT ⟨ys, N, h1, h2, h3, h4, h5, h6, h7⟩ hlen
      have hfr : x.1.1 < g.length := RchW.lt G x.2.1
      have hto : x.1.2 < g.length := by obtain ⟨_, lst, hl, hv⟩ := x.2; exact G.below _ lst hl _ hv
      obtain ⟨r, sv, hr, hsv⟩ := h1.at hfr
      have hrf := h1.isN.few hr
      have hf := h1.front hsv
      have HA := hid (add_any 54 1 pb g.length g.length x.1.1 (vals ys) sv r x.1.2 _ A.heap.size V (by have := hf; simp only [nats_length] at this; exact this) (by simp [vals, hsv]) (h1.isN.2 _ r hr).1 (by omega) (by have := h5.size; omega))
      obtain ⟨_, d1, _, dt, dp⟩ := h1.cells
      have HQ := hid (And.intro h1 (And.intro h2 (And.intro h3 (And.intro h4 (And.intro h5 (And.intro hr hsv))))))
      clear h1 h2 h3 h4 h5 hr hsv hf
      gi_wp2_with (refine ⟨trivial, ?_⟩; gi_at_call 81; refine (CallsIn.inRound l (callsIn_wide.2 HA.out)).mono ?_; rintro e Z ⟨rfl, sv', hs', honly, hnew⟩)
      obtain ⟨h1, h2, h3, h4, h5, hr, hsv⟩ := HQ.out
      have hsm := List.mem_of_getElem? hsv
      have hpbX : pb < X.heap.size := HX.out.cells.2.2.2.2.2
      have hrow := h1.sep.1 (rowL ⟨nats r, sv⟩) (by unfold rowsShr; simp; exact .inr (.inr (.inr ⟨_, hsm, rfl⟩)))
      have far : ∀ k, sv.ownBlock = some k → T ≤ k := fun k hk => h3 _ hsm k hk
      have kind : ∀ k o, V.heap[k]? = some o → o.isCells = false → ¬ (k = pb ∨ sv.ownBlock = some k) := by
        rintro k o hk ho (e | e)
        · obtain ⟨c', fz, hc⟩ := own_kind (h1.sep.1 ⟨54, 1, .slice (some ⟨pb, 0, none⟩) g.length g.length, g.length, vals ys⟩ (by simp [rowsShr])) (show (Value.slice (some ⟨pb, 0, none⟩) g.length g.length).ownBlock = some k by rw [e]; rfl)
          rw [hc] at hk; cases hk; simp [Obj.isCells] at ho
        · obtain ⟨c', fz, hc⟩ := own_kind hrow (show (rowL ⟨nats r, sv⟩).v.ownBlock = some k from e)
          rw [hc] at hk; cases hk; simp [Obj.isCells] at ho
      have hpA := HPB.out
      have hzV := h5.size
      have hall : ∀ k, (k = pb ∨ sv.ownBlock = some k) → A.heap.size ≤ k ∧ (k = pb ∨ T ≤ k) := by
        rintro k (e | e)
        · subst e; exact ⟨hpA.1, .inl rfl⟩
        · exact ⟨(h1.inner hsm e).1, .inr (far k e)⟩
      refine ⟨⟨honly.size, fun k o hk ho => (honly.block k (Array.getElem?_eq_some_iff.1 hk).1 (kind k o hk ho)).trans hk⟩, ⟨⟨honly.os, honly.tape, honly.output, honly.size, fun k hk => absurd hk (by omega)⟩, fun k hk => honly.block k (by omega) (fun e => by have := hall k e; omega)⟩, ys.set x.1.1 ⟨nats (putL r x.1.2), sv'⟩, N.set x.1.1 (putL r x.1.2), ?_, ?_, ?_, ?_, ?_, Nat.le_trans h6 honly.size, h7⟩
      · exact h1.turn hsv (putL_rising (h1.isN.2 _ r hr).1 _) (fun y hy => by
          rcases (putL_mem _ _ _).1 hy with e | e
          · omega
          · exact (h1.isN.2 _ r hr).2 y e) hs'
      · rw [List.map_append]
        exact h2.add hr
      · intro y hy b hb
        rcases List.mem_or_eq_of_mem_set hy with hy | rfl
        · exact h3 y hy b hb
        · rcases hnew b hb with h | h
          · exact far b h
          · omega
      · exact (honly.block _ (by omega) (fun e => by have := hall _ e; omega)).trans h4
      · exact ⟨honly.os.trans h5.os, honly.tape.trans h5.tape, honly.output.trans h5.output, Nat.le_trans h5.size honly.size, fun k hk => (honly.block k (by omega) (fun e => by have := hall _ e; omega)).trans (h5.block k hk)⟩
    case done =>
      rintro Dd T xs V hDd hS ⟨ys, N, h1, h2, h3, h4, h5, h6, h7⟩ hK
      obtain ⟨e0, e1, ⟨na, nc, rfl, _⟩, dt, dp⟩ := h1.cells
      obtain ⟨p0, p1, f0, f1⟩ := two_cells h4
      obtain ⟨U, hU⟩ : ∃ U, (V.setCell ⟨w.heap.size + 1, 0, none⟩ (.slice na (setL (order7 g)).length nc)).setCell ⟨w.heap.size + 1, 1, none⟩ (.slice (some ⟨pb, 0, none⟩) g.length g.length) = U := ⟨_, rfl⟩
      have hKU : U.heap[Dd]? = some (.deferred (some [])) := by rw [← hU]; exact (KeepsOthers.setCell _ _ _).same Dd _ ((KeepsOthers.setCell _ _ _).same Dd _ hK rfl) rfl
      have q0 : U.cell? ⟨w.heap.size + 1, 0, none⟩ = some (.slice na (setL (order7 g)).length nc) := by rw [← hU]; exact set_cell_other _ _ 1 0 _ _ (by omega) (set_cell_same _ _ _ _ _ p0)
      have q1 : U.cell? ⟨w.heap.size + 1, 1, none⟩ = some (.slice (some ⟨pb, 0, none⟩) g.length g.length) := by rw [← hU]; exact set_cell_same _ _ _ _ _ (set_cell_other _ _ 0 1 _ _ (by omega) p1)
      have hsU : Sep U A.heap.size (⟨3, 1, .slice na (setL (order7 g)).length nc, (setL (order7 g)).length, ints (nats (setL (order7 g)))⟩ :: ⟨54, 1, .slice (some ⟨pb, 0, none⟩) g.length g.length, g.length, vals ys⟩ :: ys.map rowL) := by rw [← hU]; exact (Sep.aside (Sep.aside (Sep.tail h1.sep) (by omega) _) (by omega) _)
      have BU : Below w.heap.size w U := by rw [← hU]; exact (h5.setCell (by show w.heap.size ≤ w.heap.size + 1; omega) _).setCell (by show w.heap.size ≤ w.heap.size + 1; omega) _
      have HW := hid (And.intro h1.lst (show Went g.length (edgesL g) N by rw [← hS]; exact h2))
      have HU := hid hU
      clear h1 h2 hU
      go_wp2
      rw [HU.out]
      refine ⟨by simp, .inl ⟨_, _, rfl, run_takeDeferred hKU, ?_⟩⟩
      have r0 := cell_kept q0 (grownBy_putObj' _ Dd (.deferred none)) (fun r e => by cases e; exact ⟨_, hKU, rfl⟩)
      have r1 := cell_kept q1 (grownBy_putObj' _ Dd (.deferred none)) (fun r e => by cases e; exact ⟨_, hKU, rfl⟩)
      exact ⟨.agg #[.slice na (setL (order7 g)).length nc, .slice (some ⟨pb, 0, none⟩) g.length g.length], by simp [results, Try.results46, go_sem, r0, r1], _, pb, N, ys, rfl, Sep.mono (Sep.calm hsU (grownBy_putObj' _ Dd _) (fun r e => by cases e; exact ⟨_, hKU, rfl⟩)) (by omega), HW.out.1, HW.out.2, BU.trans (belowK_b (w := w) (Nat.le_refl _) _ Dd _ _ (by omega) hKU rfl rfl)⟩
    case stop =>
      rintro D cd pre V _ _ h _
      exact h.elim
end Go.Proofs.Ythcenlplfcbfjaa
