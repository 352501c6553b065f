/- The program's search for the body of a loop. -/
import Derived.Test.YtiadmmnnbnamjaaGreatJ3
import Derived.Test.YtiadmmnnbnamjaaGreatQ3
import Derived.Test.YtiadmmnnbnamjaaGreatQ4
import Derived.Deep.RegionHeld
import Derived.Deep.CutRange
import Derived.Deep.DeepCutAuto
namespace Go.Proofs.YtiadmmnnbnamjaaGreat
open Go Go.RowKit Go.Shelf
set_option linter.unusedVariables false
set_option linter.unusedSimpArgs false
set_option maxRecDepth 100000

theorem row_of_cell {W : World} {hb h : Nat} (hc : W.cell? ⟨hb, 0, none⟩ = some (.int .i64 (h : Int))) : Row W (some ⟨hb, 0, none⟩) (nats [h]) := .inr ⟨hb, 0, rfl, fun i hi => by
  have : i = 0 := by simp [nats] at hi; exact hi
  subst this
  simpa [nats] using hc⟩
theorem gath_fin {X : World} {B fb : Nat} {fv lv : Value} {h : Nat} {S : List Nat} (hb : Boxed X fb 60 (.slice none 0 0)) (hB : B ≤ fb) (hf : X.ownsRow B 3 1 fv 1 (ints (nats [h]))) (hl : X.ownsRow B 3 1 lv S.length (ints (nats S))) (hd : ∀ k, fv.ownBlock = some k → lv.ownBlock ≠ some k) :
    Sep (X.setCell ⟨fb, 0, none⟩ fv) B [cellOR 60 1 fb [fv], ⟨3, 1, fv, 1, ints (nats [h])⟩, ⟨3, 1, lv, S.length, ints (nats S)⟩] := by
  have n1 := hb.not_row (by decide) hf
  have n2 := hb.not_row (by decide) hl
  have s0 : Sep X B [cellOR 60 1 fb [.slice none 0 0], ⟨3, 1, fv, 1, ints (nats [h])⟩, ⟨3, 1, lv, S.length, ints (nats S)⟩] := by
    refine Sep.cons (Sep.cons (Sep.cons (Sep.nil _ _) hl (by simp)) hf (fun k hk x hx => ?_)) (cell_own (cs := #[.slice none 0 0]) hb rfl hB) (fun k hk x hx => ?_)
    · simp at hx
      subst hx
      exact hd k hk
    · have hk2 : fb = k := Option.some.inj hk
      subst hk2
      simp at hx
      rcases hx with rfl | rfl
      · exact fun e => n1 e.symm
      · exact fun e => n2 e.symm
  have := Sep.store [] s0 0 fv
  simpa using this
theorem own_slice {w : World} {B e size n : Nat} {v : Value} {xs : List Value} (h : w.ownsRow B e size v n xs) : ∃ a c, v = .slice a n c := by
  rcases h.2 with ⟨h0, h1⟩ | ⟨g', cap, cur, he, _⟩
  · obtain rfl : n = 0 := by first | exact h0 | exact h1 | omega
    first | exact ⟨_, _, h1⟩ | exact ⟨_, _, h0⟩ | exact ⟨none, 0, h1⟩
  · exact ⟨_, _, he⟩
theorem Gath.few {g D : List (List Nat)} (G : Gr g) {h : Nat} (hh : Come g h) {f q : List Nat} (s : Gath g D h f q) : f.length ≤ 12 := by
  have h8 := nodup_le (n := g.length) (rising_nodup s.rising) (fun x hx => RchW.lt G ((s.foundIn x hx).come G hh))
  have := G.most
  omega
/-- where the search begins -/
def GStart (w wx : World) (h : Nat) (S : List Nat) (t7 t8 : Value) : Prop := ∃ fb fa fc wa wc, t7 = .pointer (some ⟨fb, 0, none⟩) ∧ t8 = .slice wa S.length wc ∧ Sep wx (w.heap.size + 2) [cellOR 60 1 fb [.slice fa 1 fc], ⟨3, 1, .slice fa 1 fc, 1, ints (nats [h])⟩, ⟨3, 1, .slice wa S.length wc, S.length, ints (nats S)⟩] ∧ Below w.heap.size w wx ∧ Boxed wx (w.heap.size + 1) 60 (.slice none 0 0)
theorem region_plain {P : Program} {id : Nat} {ops : Array Oper} {Q : Exit → Act → World → Prop} {a : Act} {w : World} (hm : P.follows .mixedOrders = true) (h : wpAny P .any ops Q ops.size (Array.replicate ops.size false) a w.drew) : (Code.region id ops true).wp P Q a w := wp_region_any hm h
theorem gath_apart {V V' : World} {B : Nat} {fa : Option Addr} {fc : Nat} {lv : Value} {n : Nat} {h : Nat} {xs : List Value} (hf : V.ownsRow B 3 1 (.slice fa 1 fc) 1 (ints (nats [h]))) (hl : V'.ownsRow V.heap.size 3 1 lv n xs) : ∀ k, (Value.slice fa 1 fc).ownBlock = some k → lv.ownBlock ≠ some k := fun k hk e => by
  have h1 := (hf.lt k hk).2
  have h2 := (hl.lt k e).1
  omega
theorem gath_leaf {w W0 V : World} {h fb : Nat} {S : List Nat} {fa wa : Option Addr} {fc wc : Nat} (hz : W0.heap.size = w.heap.size + 2) (b0 : Below w.heap.size w W0) (x0 : Boxed W0 (w.heap.size + 1) 60 (.slice none 0 0)) (hB : Below W0.heap.size W0 V) (bx : Boxed V fb 60 (.slice none 0 0)) (hfb : W0.heap.size ≤ fb) (hf : V.ownsRow W0.heap.size 3 1 (.slice fa 1 fc) 1 (ints (nats [h]))) (hl : V.ownsRow W0.heap.size 3 1 (.slice wa S.length wc) S.length (ints (nats S))) (hd : ∀ k, (Value.slice fa 1 fc).ownBlock = some k → (Value.slice wa S.length wc).ownBlock ≠ some k) :
    GStart w (V.setCell ⟨fb, 0, none⟩ (.slice fa 1 fc)) h S (.pointer (some ⟨fb, 0, none⟩)) (.slice wa S.length wc) := by
  rw [hz] at hf hl
  refine ⟨fb, fa, fc, wa, wc, rfl, rfl, gath_fin bx (by omega) hf hl hd, (b0.trans (hB.mono b0.size)).setCell (show w.heap.size ≤ fb by omega) _, ?_⟩
  exact (boxed_below x0 hB).kept (grownBy_setCell' V fb (.slice fa 1 fc)) (fun e => by injection e with e; omega)
set_option maxHeartbeats 8000000 in
theorem gathered_any {g D : List (List Nat)} (G : Gr g) {h : Nat} (hh : Come g h) (S : List Nat) (hS : ∀ u, u ∈ S ↔ (u, h) ∈ backL g D) (sa : Option Addr) (sc Bx lb lc B0 : Nat) (ys : List LV) (P : List (List Nat)) (w : World) (hl : S.length ≤ 12) (hr : Row w sa (nats S))
    (hbx : w.cell? ⟨Bx, 0, none⟩ = some (.slice (some ⟨lb, 0, none⟩) g.length lc)) (hO : OwnS w B0 (.slice (some ⟨lb, 0, none⟩) g.length lc) ys) (hP : lists ys = natsL P) (hC : Came g.length (edgesL g) P) :
    Calls Tryz.prog 58 #[.int .i64 (h : Int), .agg #[.slice sa S.length sc], .func (.func 55) #[] #[.pointer (some ⟨Bx, 0, none⟩)]] w fun e w' => ∃ va vc T, e = .returned (.agg #[.slice va T.length vc]) ∧ w'.ownsRow w.heap.size 3 1 (.slice va T.length vc) T.length (ints (nats T)) ∧ IsBody g D h T ∧ Below w.heap.size w w' := by
  have hgm := G.most
  obtain ⟨W0, hW0⟩ : ∃ W0, ((w.alloc (.cells #[.slice sa S.length sc] 60)).alloc (.cells #[.slice none 0 0] 60)) = W0 := ⟨_, rfl⟩
  have b0 : Below w.heap.size w W0 := by rw [← hW0]; exact below2 _ _ _
  have d0 : W0.cell? ⟨w.heap.size, 0, none⟩ = some (.slice sa S.length sc) := by rw [← hW0]; exact ((Boxed.new w 60 (.slice sa S.length sc)).alloc _).cell
  have x0 : Boxed W0 (w.heap.size + 1) 60 (.slice none 0 0) := by
    rw [← hW0]
    have := Boxed.new (w.alloc (.cells #[.slice sa S.length sc] 60)) 60 (.slice none 0 0)
    rw [World.size_alloc] at this
    exact this
  have z0 : W0.heap.size = w.heap.size + 2 := by rw [← hW0]; simp
  have HSO : Hid (∀ W hb, W.cell? ⟨hb, 0, none⟩ = some (.int .i64 (h : Int)) → Calls Tryz.prog 72 #[.slice (some ⟨hb, 0, none⟩) 1 1] W fun e w' => ∃ va vc, e = .returned (.agg #[.slice va 1 vc]) ∧ w'.ownsRow W.heap.size 3 1 (.slice va 1 vc) 1 (ints (nats [h])) ∧ Below W.heap.size W w') := fun W hb hc => setOf_any (some ⟨hb, 0, none⟩) 1 [h] W (by simp) (row_of_cell hc)
  have HLI := hid (fun W (hb : Below w.heap.size w W) => list_any sa sc S W (by omega) (hr.below hb))
  have H := hid (And.intro hS (And.intro hbx (And.intro hO (And.intro hP hC))))
  clear hr hS hbx hO hP hC
  have HZ0 := hid z0
  clear z0
  have HD := hid (fun W (hb : Below W0.heap.size W0 W) => cell_below d0 hb)
  go_enter Tryz.func58, Tryz.ntmps58
  go_upto_region 1 with fail
  try rw [hW0]
  clear hW0
  go_cut [7, 8] from 10 to 14 (fun t7 t8 wx => GStart w wx h S t7 t8)
  case first =>
    refine region_plain (by kernel_rfl) ?_
    obtain ⟨W1, hW1⟩ : ∃ W1, W0.drew = W1 := ⟨_, rfl⟩
    rw [hW1]
    have hB0 : Below W0.heap.size W0 W1 := by rw [← hW1]; exact bdr (Below.refl _ W0)
    clear hW1
    have c0 := HD.out _ hB0
    refine wpAny_take (i := 0) (v := ?_) rfl (by kernel_rfl) (by kernel_rfl) (by kernel_rfl) (fun _ _ _ h => h) (Or.inl ⟨by rfl, ?_⟩) ?_
    rotate_left
    focus (intro w; go_simp; first | done | with_reducible rfl)
    refine wpAny_ready (rs := [1, 3, 5]) (by kernel_rfl) (by simp) ?_
    refine AllReady.cons rfl (fun K hK => ?_) ?_
    · go_simp
      refine hK _ _ ?_
      try clear hK K
      obtain ⟨V1, hV1⟩ : ∃ V1, World.alloc W1 (.cells #[.int .i64 (h : Int)] 3) = V1 := ⟨_, rfl⟩
      rw [hV1]
      have hB1 : Below W0.heap.size W0 V1 := by rw [← hV1]; exact hB0.alloc hB0.size _
      have c1 := HD.out _ hB1
      have bi1 : Boxed V1 W1.heap.size 3 (.int .i64 (h : Int)) := by rw [← hV1]; exact Boxed.new W1 3 (.int .i64 (h : Int))
      clear hV1
      refine wpAny_ready (rs := [2, 3, 5]) (by kernel_rfl) (by simp) ?_
      refine AllReady.cons rfl (fun K hK => ?_) ?_
      · go_simp
        go_wp2_with (go_at_call 72; refine (HSO.out _ _ bi1.cell).mono ?_; rintro e V2 ⟨fa, fc, rfl, of2', hb2⟩; have hB2 : Below W0.heap.size W0 V2 := bstep hB1 hB1.size hb2; have c2 := HD.out _ hB2; have of2 := owns_mono of2' hB1.size)
        try (refine hK _ _ ?_)
        try clear hK K
        refine wpAny_ready (rs := [3, 5]) (by kernel_rfl) (by simp) ?_
        refine AllReady.cons rfl (fun K hK => ?_) ?_
        · go_simp
          refine hK _ _ ?_
          try clear hK K
          refine wpAny_ready (rs := [4, 5]) (by kernel_rfl) (by simp) ?_
          refine AllReady.cons rfl (fun K hK => ?_) ?_
          · go_simp
            go_wp2_with (go_at_call 28; refine (HLI.out _ (b0.trans (hB2.mono b0.size))).mono ?_; rintro e V4 ⟨wa, wc, rfl, ol4', hb4⟩; have hB4 : Below W0.heap.size W0 V4 := bstep hB2 hB2.size hb4; have ol4 := owns_mono ol4' hB2.size; have of4 := owns_below of2 hb4; have hd4 := gath_apart of2 ol4'; have c4 := HD.out _ hB4)
            try (refine hK _ _ ?_)
            try clear hK K
            refine wpAny_ready (rs := [5]) (by kernel_rfl) (by simp) ?_
            refine AllReady.cons rfl (fun K hK => ?_) ?_
            · go_simp
              refine hK _ _ ?_
              try clear hK K
              obtain ⟨V5, hV5⟩ : ∃ V5, World.alloc V4 (.cells #[.slice none 0 0] 60) = V5 := ⟨_, rfl⟩
              rw [hV5]
              have hB5 : Below W0.heap.size W0 V5 := by rw [← hV5]; exact hB4.alloc hB4.size _
              have c5 := HD.out _ hB5
              have bx5 : Boxed V5 V4.heap.size 60 (.slice none 0 0) := by rw [← hV5]; exact Boxed.new V4 60 (.slice none 0 0)
              have fl5 : W0.heap.size ≤ V4.heap.size := hB4.size
              have of5 := owns_below of4 (below1 V4 (.cells #[.slice none 0 0] 60))
              rw [hV5] at of5
              have ol5 := owns_below ol4 (below1 V4 (.cells #[.slice none 0 0] 60))
              rw [hV5] at ol5
              clear hV5
              refine wpAny_ready (rs := [6]) (by kernel_rfl) (by simp) ?_
              refine AllReady.cons rfl (fun K hK => ?_) ?_
              · have cb6 := bx5.cell
                have fr6 := bx5.frozen
                go_simp
                refine hK _ _ ?_
                try clear hK K
                refine wpAny_ready (rs := [7]) (by kernel_rfl) (by simp) ?_
                refine AllReady.cons rfl (fun K hK => ?_) ?_
                · go_simp
                  refine hK _ _ ?_
                  try clear hK K
                  refine wpAny_done (by kernel_rfl) ?_ _
                  go_wp2_with fail
                  go_meet
                  exact gath_leaf HZ0.out b0 x0 hB5 bx5 fl5 of5 ol5 hd4
                exact AllReady.nil
              exact AllReady.nil
            exact AllReady.nil
          refine AllReady.cons rfl (fun K hK => ?_) ?_
          · go_simp
            refine hK _ _ ?_
            try clear hK K
            obtain ⟨V8, hV8⟩ : ∃ V8, World.alloc V2 (.cells #[.slice none 0 0] 60) = V8 := ⟨_, rfl⟩
            rw [hV8]
            have hB8 : Below W0.heap.size W0 V8 := by rw [← hV8]; exact hB2.alloc hB2.size _
            have c8 := HD.out _ hB8
            have bx8 : Boxed V8 V2.heap.size 60 (.slice none 0 0) := by rw [← hV8]; exact Boxed.new V2 60 (.slice none 0 0)
            have fl8 : W0.heap.size ≤ V2.heap.size := hB2.size
            have of8 := owns_below of2 (below1 V2 (.cells #[.slice none 0 0] 60))
            rw [hV8] at of8
            clear hV8
            refine wpAny_ready (rs := [4]) (by kernel_rfl) (by simp) ?_
            refine AllReady.cons rfl (fun K hK => ?_) ?_
            · go_simp
              go_wp2_with (go_at_call 28; refine (HLI.out _ (b0.trans (hB8.mono b0.size))).mono ?_; rintro e V9 ⟨wa, wc, rfl, ol9', hb9⟩; have hB9 : Below W0.heap.size W0 V9 := bstep hB8 hB8.size hb9; have ol9 := owns_mono ol9' hB8.size; have of9 := owns_below of8 hb9; have hd9 := gath_apart of8 ol9'; have bx9 := boxed_below bx8 hb9; have c9 := HD.out _ hB9)
              try (refine hK _ _ ?_)
              try clear hK K
              refine wpAny_ready (rs := [6]) (by kernel_rfl) (by simp) ?_
              refine AllReady.cons rfl (fun K hK => ?_) ?_
              · have cb10 := bx9.cell
                have fr10 := bx9.frozen
                go_simp
                refine hK _ _ ?_
                try clear hK K
                refine wpAny_ready (rs := [7]) (by kernel_rfl) (by simp) ?_
                refine AllReady.cons rfl (fun K hK => ?_) ?_
                · go_simp
                  refine hK _ _ ?_
                  try clear hK K
                  refine wpAny_done (by kernel_rfl) ?_ _
                  go_wp2_with fail
                  go_meet
                  exact gath_leaf HZ0.out b0 x0 hB9 bx9 fl8 of9 ol9 hd9
                exact AllReady.nil
              exact AllReady.nil
            exact AllReady.nil
          exact AllReady.nil
        refine AllReady.cons rfl (fun K hK => ?_) ?_
        · go_simp
          refine hK _ _ ?_
          try clear hK K
          obtain ⟨V12, hV12⟩ : ∃ V12, World.alloc V2 (.cells #[.slice none 0 0] 60) = V12 := ⟨_, rfl⟩
          rw [hV12]
          have hB12 : Below W0.heap.size W0 V12 := by rw [← hV12]; exact hB2.alloc hB2.size _
          have c12 := HD.out _ hB12
          have bx12 : Boxed V12 V2.heap.size 60 (.slice none 0 0) := by rw [← hV12]; exact Boxed.new V2 60 (.slice none 0 0)
          have fl12 : W0.heap.size ≤ V2.heap.size := hB2.size
          have of12 := owns_below of2 (below1 V2 (.cells #[.slice none 0 0] 60))
          rw [hV12] at of12
          clear hV12
          refine wpAny_ready (rs := [3]) (by kernel_rfl) (by simp) ?_
          refine AllReady.cons rfl (fun K hK => ?_) ?_
          · go_simp
            refine hK _ _ ?_
            try clear hK K
            refine wpAny_ready (rs := [4]) (by kernel_rfl) (by simp) ?_
            refine AllReady.cons rfl (fun K hK => ?_) ?_
            · go_simp
              go_wp2_with (go_at_call 28; refine (HLI.out _ (b0.trans (hB12.mono b0.size))).mono ?_; rintro e V14 ⟨wa, wc, rfl, ol14', hb14⟩; have hB14 : Below W0.heap.size W0 V14 := bstep hB12 hB12.size hb14; have ol14 := owns_mono ol14' hB12.size; have of14 := owns_below of12 hb14; have hd14 := gath_apart of12 ol14'; have bx14 := boxed_below bx12 hb14; have c14 := HD.out _ hB14)
              try (refine hK _ _ ?_)
              try clear hK K
              refine wpAny_ready (rs := [6]) (by kernel_rfl) (by simp) ?_
              refine AllReady.cons rfl (fun K hK => ?_) ?_
              · have cb15 := bx14.cell
                have fr15 := bx14.frozen
                go_simp
                refine hK _ _ ?_
                try clear hK K
                refine wpAny_ready (rs := [7]) (by kernel_rfl) (by simp) ?_
                refine AllReady.cons rfl (fun K hK => ?_) ?_
                · go_simp
                  refine hK _ _ ?_
                  try clear hK K
                  refine wpAny_done (by kernel_rfl) ?_ _
                  go_wp2_with fail
                  go_meet
                  exact gath_leaf HZ0.out b0 x0 hB14 bx14 fl12 of14 ol14 hd14
                exact AllReady.nil
              exact AllReady.nil
            exact AllReady.nil
          exact AllReady.nil
        exact AllReady.nil
      refine AllReady.cons rfl (fun K hK => ?_) ?_
      · go_simp
        refine hK _ _ ?_
        try clear hK K
        refine wpAny_ready (rs := [2, 5]) (by kernel_rfl) (by simp) ?_
        refine AllReady.cons rfl (fun K hK => ?_) ?_
        · go_simp
          go_wp2_with (go_at_call 72; refine (HSO.out _ _ bi1.cell).mono ?_; rintro e V18 ⟨fa, fc, rfl, of18', hb18⟩; have hB18 : Below W0.heap.size W0 V18 := bstep hB1 hB1.size hb18; have c18 := HD.out _ hB18; have of18 := owns_mono of18' hB1.size)
          try (refine hK _ _ ?_)
          try clear hK K
          refine wpAny_ready (rs := [4, 5]) (by kernel_rfl) (by simp) ?_
          refine AllReady.cons rfl (fun K hK => ?_) ?_
          · go_simp
            go_wp2_with (go_at_call 28; refine (HLI.out _ (b0.trans (hB18.mono b0.size))).mono ?_; rintro e V19 ⟨wa, wc, rfl, ol19', hb19⟩; have hB19 : Below W0.heap.size W0 V19 := bstep hB18 hB18.size hb19; have ol19 := owns_mono ol19' hB18.size; have of19 := owns_below of18 hb19; have hd19 := gath_apart of18 ol19'; have c19 := HD.out _ hB19)
            try (refine hK _ _ ?_)
            try clear hK K
            refine wpAny_ready (rs := [5]) (by kernel_rfl) (by simp) ?_
            refine AllReady.cons rfl (fun K hK => ?_) ?_
            · go_simp
              refine hK _ _ ?_
              try clear hK K
              obtain ⟨V20, hV20⟩ : ∃ V20, World.alloc V19 (.cells #[.slice none 0 0] 60) = V20 := ⟨_, rfl⟩
              rw [hV20]
              have hB20 : Below W0.heap.size W0 V20 := by rw [← hV20]; exact hB19.alloc hB19.size _
              have c20 := HD.out _ hB20
              have bx20 : Boxed V20 V19.heap.size 60 (.slice none 0 0) := by rw [← hV20]; exact Boxed.new V19 60 (.slice none 0 0)
              have fl20 : W0.heap.size ≤ V19.heap.size := hB19.size
              have of20 := owns_below of19 (below1 V19 (.cells #[.slice none 0 0] 60))
              rw [hV20] at of20
              have ol20 := owns_below ol19 (below1 V19 (.cells #[.slice none 0 0] 60))
              rw [hV20] at ol20
              clear hV20
              refine wpAny_ready (rs := [6]) (by kernel_rfl) (by simp) ?_
              refine AllReady.cons rfl (fun K hK => ?_) ?_
              · have cb21 := bx20.cell
                have fr21 := bx20.frozen
                go_simp
                refine hK _ _ ?_
                try clear hK K
                refine wpAny_ready (rs := [7]) (by kernel_rfl) (by simp) ?_
                refine AllReady.cons rfl (fun K hK => ?_) ?_
                · go_simp
                  refine hK _ _ ?_
                  try clear hK K
                  refine wpAny_done (by kernel_rfl) ?_ _
                  go_wp2_with fail
                  go_meet
                  exact gath_leaf HZ0.out b0 x0 hB20 bx20 fl20 of20 ol20 hd19
                exact AllReady.nil
              exact AllReady.nil
            exact AllReady.nil
          refine AllReady.cons rfl (fun K hK => ?_) ?_
          · go_simp
            refine hK _ _ ?_
            try clear hK K
            obtain ⟨V23, hV23⟩ : ∃ V23, World.alloc V18 (.cells #[.slice none 0 0] 60) = V23 := ⟨_, rfl⟩
            rw [hV23]
            have hB23 : Below W0.heap.size W0 V23 := by rw [← hV23]; exact hB18.alloc hB18.size _
            have c23 := HD.out _ hB23
            have bx23 : Boxed V23 V18.heap.size 60 (.slice none 0 0) := by rw [← hV23]; exact Boxed.new V18 60 (.slice none 0 0)
            have fl23 : W0.heap.size ≤ V18.heap.size := hB18.size
            have of23 := owns_below of18 (below1 V18 (.cells #[.slice none 0 0] 60))
            rw [hV23] at of23
            clear hV23
            refine wpAny_ready (rs := [4]) (by kernel_rfl) (by simp) ?_
            refine AllReady.cons rfl (fun K hK => ?_) ?_
            · go_simp
              go_wp2_with (go_at_call 28; refine (HLI.out _ (b0.trans (hB23.mono b0.size))).mono ?_; rintro e V24 ⟨wa, wc, rfl, ol24', hb24⟩; have hB24 : Below W0.heap.size W0 V24 := bstep hB23 hB23.size hb24; have ol24 := owns_mono ol24' hB23.size; have of24 := owns_below of23 hb24; have hd24 := gath_apart of23 ol24'; have bx24 := boxed_below bx23 hb24; have c24 := HD.out _ hB24)
              try (refine hK _ _ ?_)
              try clear hK K
              refine wpAny_ready (rs := [6]) (by kernel_rfl) (by simp) ?_
              refine AllReady.cons rfl (fun K hK => ?_) ?_
              · have cb25 := bx24.cell
                have fr25 := bx24.frozen
                go_simp
                refine hK _ _ ?_
                try clear hK K
                refine wpAny_ready (rs := [7]) (by kernel_rfl) (by simp) ?_
                refine AllReady.cons rfl (fun K hK => ?_) ?_
                · go_simp
                  refine hK _ _ ?_
                  try clear hK K
                  refine wpAny_done (by kernel_rfl) ?_ _
                  go_wp2_with fail
                  go_meet
                  exact gath_leaf HZ0.out b0 x0 hB24 bx24 fl23 of24 ol24 hd24
                exact AllReady.nil
              exact AllReady.nil
            exact AllReady.nil
          exact AllReady.nil
        refine AllReady.cons rfl (fun K hK => ?_) ?_
        · go_simp
          refine hK _ _ ?_
          try clear hK K
          obtain ⟨V27, hV27⟩ : ∃ V27, World.alloc V1 (.cells #[.slice none 0 0] 60) = V27 := ⟨_, rfl⟩
          rw [hV27]
          have hB27 : Below W0.heap.size W0 V27 := by rw [← hV27]; exact hB1.alloc hB1.size _
          have c27 := HD.out _ hB27
          have bi27 : Boxed V27 W1.heap.size 3 (.int .i64 (h : Int)) := by rw [← hV27]; exact bi1.alloc _
          have bx27 : Boxed V27 V1.heap.size 60 (.slice none 0 0) := by rw [← hV27]; exact Boxed.new V1 60 (.slice none 0 0)
          have fl27 : W0.heap.size ≤ V1.heap.size := hB1.size
          clear hV27
          refine wpAny_ready (rs := [2]) (by kernel_rfl) (by simp) ?_
          refine AllReady.cons rfl (fun K hK => ?_) ?_
          · go_simp
            go_wp2_with (go_at_call 72; refine (HSO.out _ _ bi27.cell).mono ?_; rintro e V28 ⟨fa, fc, rfl, of28', hb28⟩; have hB28 : Below W0.heap.size W0 V28 := bstep hB27 hB27.size hb28; have c28 := HD.out _ hB28; have of28 := owns_mono of28' hB27.size; have bx28 := boxed_below bx27 hb28)
            try (refine hK _ _ ?_)
            try clear hK K
            refine wpAny_ready (rs := [4]) (by kernel_rfl) (by simp) ?_
            refine AllReady.cons rfl (fun K hK => ?_) ?_
            · go_simp
              go_wp2_with (go_at_call 28; refine (HLI.out _ (b0.trans (hB28.mono b0.size))).mono ?_; rintro e V29 ⟨wa, wc, rfl, ol29', hb29⟩; have hB29 : Below W0.heap.size W0 V29 := bstep hB28 hB28.size hb29; have ol29 := owns_mono ol29' hB28.size; have of29 := owns_below of28 hb29; have hd29 := gath_apart of28 ol29'; have bx29 := boxed_below bx28 hb29; have c29 := HD.out _ hB29)
              try (refine hK _ _ ?_)
              try clear hK K
              refine wpAny_ready (rs := [6]) (by kernel_rfl) (by simp) ?_
              refine AllReady.cons rfl (fun K hK => ?_) ?_
              · have cb30 := bx29.cell
                have fr30 := bx29.frozen
                go_simp
                refine hK _ _ ?_
                try clear hK K
                refine wpAny_ready (rs := [7]) (by kernel_rfl) (by simp) ?_
                refine AllReady.cons rfl (fun K hK => ?_) ?_
                · go_simp
                  refine hK _ _ ?_
                  try clear hK K
                  refine wpAny_done (by kernel_rfl) ?_ _
                  go_wp2_with fail
                  go_meet
                  exact gath_leaf HZ0.out b0 x0 hB29 bx29 fl27 of29 ol29 hd29
                exact AllReady.nil
              exact AllReady.nil
            exact AllReady.nil
          exact AllReady.nil
        exact AllReady.nil
      refine AllReady.cons rfl (fun K hK => ?_) ?_
      · go_simp
        refine hK _ _ ?_
        try clear hK K
        obtain ⟨V32, hV32⟩ : ∃ V32, World.alloc V1 (.cells #[.slice none 0 0] 60) = V32 := ⟨_, rfl⟩
        rw [hV32]
        have hB32 : Below W0.heap.size W0 V32 := by rw [← hV32]; exact hB1.alloc hB1.size _
        have c32 := HD.out _ hB32
        have bi32 : Boxed V32 W1.heap.size 3 (.int .i64 (h : Int)) := by rw [← hV32]; exact bi1.alloc _
        have bx32 : Boxed V32 V1.heap.size 60 (.slice none 0 0) := by rw [← hV32]; exact Boxed.new V1 60 (.slice none 0 0)
        have fl32 : W0.heap.size ≤ V1.heap.size := hB1.size
        clear hV32
        refine wpAny_ready (rs := [2, 3]) (by kernel_rfl) (by simp) ?_
        refine AllReady.cons rfl (fun K hK => ?_) ?_
        · go_simp
          go_wp2_with (go_at_call 72; refine (HSO.out _ _ bi32.cell).mono ?_; rintro e V33 ⟨fa, fc, rfl, of33', hb33⟩; have hB33 : Below W0.heap.size W0 V33 := bstep hB32 hB32.size hb33; have c33 := HD.out _ hB33; have of33 := owns_mono of33' hB32.size; have bx33 := boxed_below bx32 hb33)
          try (refine hK _ _ ?_)
          try clear hK K
          refine wpAny_ready (rs := [3]) (by kernel_rfl) (by simp) ?_
          refine AllReady.cons rfl (fun K hK => ?_) ?_
          · go_simp
            refine hK _ _ ?_
            try clear hK K
            refine wpAny_ready (rs := [4]) (by kernel_rfl) (by simp) ?_
            refine AllReady.cons rfl (fun K hK => ?_) ?_
            · go_simp
              go_wp2_with (go_at_call 28; refine (HLI.out _ (b0.trans (hB33.mono b0.size))).mono ?_; rintro e V35 ⟨wa, wc, rfl, ol35', hb35⟩; have hB35 : Below W0.heap.size W0 V35 := bstep hB33 hB33.size hb35; have ol35 := owns_mono ol35' hB33.size; have of35 := owns_below of33 hb35; have hd35 := gath_apart of33 ol35'; have bx35 := boxed_below bx33 hb35; have c35 := HD.out _ hB35)
              try (refine hK _ _ ?_)
              try clear hK K
              refine wpAny_ready (rs := [6]) (by kernel_rfl) (by simp) ?_
              refine AllReady.cons rfl (fun K hK => ?_) ?_
              · have cb36 := bx35.cell
                have fr36 := bx35.frozen
                go_simp
                refine hK _ _ ?_
                try clear hK K
                refine wpAny_ready (rs := [7]) (by kernel_rfl) (by simp) ?_
                refine AllReady.cons rfl (fun K hK => ?_) ?_
                · go_simp
                  refine hK _ _ ?_
                  try clear hK K
                  refine wpAny_done (by kernel_rfl) ?_ _
                  go_wp2_with fail
                  go_meet
                  exact gath_leaf HZ0.out b0 x0 hB35 bx35 fl32 of35 ol35 hd35
                exact AllReady.nil
              exact AllReady.nil
            exact AllReady.nil
          exact AllReady.nil
        refine AllReady.cons rfl (fun K hK => ?_) ?_
        · go_simp
          refine hK _ _ ?_
          try clear hK K
          refine wpAny_ready (rs := [2]) (by kernel_rfl) (by simp) ?_
          refine AllReady.cons rfl (fun K hK => ?_) ?_
          · go_simp
            go_wp2_with (go_at_call 72; refine (HSO.out _ _ bi32.cell).mono ?_; rintro e V39 ⟨fa, fc, rfl, of39', hb39⟩; have hB39 : Below W0.heap.size W0 V39 := bstep hB32 hB32.size hb39; have c39 := HD.out _ hB39; have of39 := owns_mono of39' hB32.size; have bx39 := boxed_below bx32 hb39)
            try (refine hK _ _ ?_)
            try clear hK K
            refine wpAny_ready (rs := [4]) (by kernel_rfl) (by simp) ?_
            refine AllReady.cons rfl (fun K hK => ?_) ?_
            · go_simp
              go_wp2_with (go_at_call 28; refine (HLI.out _ (b0.trans (hB39.mono b0.size))).mono ?_; rintro e V40 ⟨wa, wc, rfl, ol40', hb40⟩; have hB40 : Below W0.heap.size W0 V40 := bstep hB39 hB39.size hb40; have ol40 := owns_mono ol40' hB39.size; have of40 := owns_below of39 hb40; have hd40 := gath_apart of39 ol40'; have bx40 := boxed_below bx39 hb40; have c40 := HD.out _ hB40)
              try (refine hK _ _ ?_)
              try clear hK K
              refine wpAny_ready (rs := [6]) (by kernel_rfl) (by simp) ?_
              refine AllReady.cons rfl (fun K hK => ?_) ?_
              · have cb41 := bx40.cell
                have fr41 := bx40.frozen
                go_simp
                refine hK _ _ ?_
                try clear hK K
                refine wpAny_ready (rs := [7]) (by kernel_rfl) (by simp) ?_
                refine AllReady.cons rfl (fun K hK => ?_) ?_
                · go_simp
                  refine hK _ _ ?_
                  try clear hK K
                  refine wpAny_done (by kernel_rfl) ?_ _
                  go_wp2_with fail
                  go_meet
                  exact gath_leaf HZ0.out b0 x0 hB40 bx40 fl32 of40 ol40 hd40
                exact AllReady.nil
              exact AllReady.nil
            exact AllReady.nil
          exact AllReady.nil
        exact AllReady.nil
      exact AllReady.nil
    refine AllReady.cons rfl (fun K hK => ?_) ?_
    · go_simp
      refine hK _ _ ?_
      try clear hK K
      refine wpAny_ready (rs := [1, 5]) (by kernel_rfl) (by simp) ?_
      refine AllReady.cons rfl (fun K hK => ?_) ?_
      · go_simp
        refine hK _ _ ?_
        try clear hK K
        obtain ⟨V44, hV44⟩ : ∃ V44, World.alloc W1 (.cells #[.int .i64 (h : Int)] 3) = V44 := ⟨_, rfl⟩
        rw [hV44]
        have hB44 : Below W0.heap.size W0 V44 := by rw [← hV44]; exact hB0.alloc hB0.size _
        have c44 := HD.out _ hB44
        have bi44 : Boxed V44 W1.heap.size 3 (.int .i64 (h : Int)) := by rw [← hV44]; exact Boxed.new W1 3 (.int .i64 (h : Int))
        clear hV44
        refine wpAny_ready (rs := [2, 5]) (by kernel_rfl) (by simp) ?_
        refine AllReady.cons rfl (fun K hK => ?_) ?_
        · go_simp
          go_wp2_with (go_at_call 72; refine (HSO.out _ _ bi44.cell).mono ?_; rintro e V45 ⟨fa, fc, rfl, of45', hb45⟩; have hB45 : Below W0.heap.size W0 V45 := bstep hB44 hB44.size hb45; have c45 := HD.out _ hB45; have of45 := owns_mono of45' hB44.size)
          try (refine hK _ _ ?_)
          try clear hK K
          refine wpAny_ready (rs := [4, 5]) (by kernel_rfl) (by simp) ?_
          refine AllReady.cons rfl (fun K hK => ?_) ?_
          · go_simp
            go_wp2_with (go_at_call 28; refine (HLI.out _ (b0.trans (hB45.mono b0.size))).mono ?_; rintro e V46 ⟨wa, wc, rfl, ol46', hb46⟩; have hB46 : Below W0.heap.size W0 V46 := bstep hB45 hB45.size hb46; have ol46 := owns_mono ol46' hB45.size; have of46 := owns_below of45 hb46; have hd46 := gath_apart of45 ol46'; have c46 := HD.out _ hB46)
            try (refine hK _ _ ?_)
            try clear hK K
            refine wpAny_ready (rs := [5]) (by kernel_rfl) (by simp) ?_
            refine AllReady.cons rfl (fun K hK => ?_) ?_
            · go_simp
              refine hK _ _ ?_
              try clear hK K
              obtain ⟨V47, hV47⟩ : ∃ V47, World.alloc V46 (.cells #[.slice none 0 0] 60) = V47 := ⟨_, rfl⟩
              rw [hV47]
              have hB47 : Below W0.heap.size W0 V47 := by rw [← hV47]; exact hB46.alloc hB46.size _
              have c47 := HD.out _ hB47
              have bx47 : Boxed V47 V46.heap.size 60 (.slice none 0 0) := by rw [← hV47]; exact Boxed.new V46 60 (.slice none 0 0)
              have fl47 : W0.heap.size ≤ V46.heap.size := hB46.size
              have of47 := owns_below of46 (below1 V46 (.cells #[.slice none 0 0] 60))
              rw [hV47] at of47
              have ol47 := owns_below ol46 (below1 V46 (.cells #[.slice none 0 0] 60))
              rw [hV47] at ol47
              clear hV47
              refine wpAny_ready (rs := [6]) (by kernel_rfl) (by simp) ?_
              refine AllReady.cons rfl (fun K hK => ?_) ?_
              · have cb48 := bx47.cell
                have fr48 := bx47.frozen
                go_simp
                refine hK _ _ ?_
                try clear hK K
                refine wpAny_ready (rs := [7]) (by kernel_rfl) (by simp) ?_
                refine AllReady.cons rfl (fun K hK => ?_) ?_
                · go_simp
                  refine hK _ _ ?_
                  try clear hK K
                  refine wpAny_done (by kernel_rfl) ?_ _
                  go_wp2_with fail
                  go_meet
                  exact gath_leaf HZ0.out b0 x0 hB47 bx47 fl47 of47 ol47 hd46
                exact AllReady.nil
              exact AllReady.nil
            exact AllReady.nil
          refine AllReady.cons rfl (fun K hK => ?_) ?_
          · go_simp
            refine hK _ _ ?_
            try clear hK K
            obtain ⟨V50, hV50⟩ : ∃ V50, World.alloc V45 (.cells #[.slice none 0 0] 60) = V50 := ⟨_, rfl⟩
            rw [hV50]
            have hB50 : Below W0.heap.size W0 V50 := by rw [← hV50]; exact hB45.alloc hB45.size _
            have c50 := HD.out _ hB50
            have bx50 : Boxed V50 V45.heap.size 60 (.slice none 0 0) := by rw [← hV50]; exact Boxed.new V45 60 (.slice none 0 0)
            have fl50 : W0.heap.size ≤ V45.heap.size := hB45.size
            have of50 := owns_below of45 (below1 V45 (.cells #[.slice none 0 0] 60))
            rw [hV50] at of50
            clear hV50
            refine wpAny_ready (rs := [4]) (by kernel_rfl) (by simp) ?_
            refine AllReady.cons rfl (fun K hK => ?_) ?_
            · go_simp
              go_wp2_with (go_at_call 28; refine (HLI.out _ (b0.trans (hB50.mono b0.size))).mono ?_; rintro e V51 ⟨wa, wc, rfl, ol51', hb51⟩; have hB51 : Below W0.heap.size W0 V51 := bstep hB50 hB50.size hb51; have ol51 := owns_mono ol51' hB50.size; have of51 := owns_below of50 hb51; have hd51 := gath_apart of50 ol51'; have bx51 := boxed_below bx50 hb51; have c51 := HD.out _ hB51)
              try (refine hK _ _ ?_)
              try clear hK K
              refine wpAny_ready (rs := [6]) (by kernel_rfl) (by simp) ?_
              refine AllReady.cons rfl (fun K hK => ?_) ?_
              · have cb52 := bx51.cell
                have fr52 := bx51.frozen
                go_simp
                refine hK _ _ ?_
                try clear hK K
                refine wpAny_ready (rs := [7]) (by kernel_rfl) (by simp) ?_
                refine AllReady.cons rfl (fun K hK => ?_) ?_
                · go_simp
                  refine hK _ _ ?_
                  try clear hK K
                  refine wpAny_done (by kernel_rfl) ?_ _
                  go_wp2_with fail
                  go_meet
                  exact gath_leaf HZ0.out b0 x0 hB51 bx51 fl50 of51 ol51 hd51
                exact AllReady.nil
              exact AllReady.nil
            exact AllReady.nil
          exact AllReady.nil
        refine AllReady.cons rfl (fun K hK => ?_) ?_
        · go_simp
          refine hK _ _ ?_
          try clear hK K
          obtain ⟨V54, hV54⟩ : ∃ V54, World.alloc V44 (.cells #[.slice none 0 0] 60) = V54 := ⟨_, rfl⟩
          rw [hV54]
          have hB54 : Below W0.heap.size W0 V54 := by rw [← hV54]; exact hB44.alloc hB44.size _
          have c54 := HD.out _ hB54
          have bi54 : Boxed V54 W1.heap.size 3 (.int .i64 (h : Int)) := by rw [← hV54]; exact bi44.alloc _
          have bx54 : Boxed V54 V44.heap.size 60 (.slice none 0 0) := by rw [← hV54]; exact Boxed.new V44 60 (.slice none 0 0)
          have fl54 : W0.heap.size ≤ V44.heap.size := hB44.size
          clear hV54
          refine wpAny_ready (rs := [2]) (by kernel_rfl) (by simp) ?_
          refine AllReady.cons rfl (fun K hK => ?_) ?_
          · go_simp
            go_wp2_with (go_at_call 72; refine (HSO.out _ _ bi54.cell).mono ?_; rintro e V55 ⟨fa, fc, rfl, of55', hb55⟩; have hB55 : Below W0.heap.size W0 V55 := bstep hB54 hB54.size hb55; have c55 := HD.out _ hB55; have of55 := owns_mono of55' hB54.size; have bx55 := boxed_below bx54 hb55)
            try (refine hK _ _ ?_)
            try clear hK K
            refine wpAny_ready (rs := [4]) (by kernel_rfl) (by simp) ?_
            refine AllReady.cons rfl (fun K hK => ?_) ?_
            · go_simp
              go_wp2_with (go_at_call 28; refine (HLI.out _ (b0.trans (hB55.mono b0.size))).mono ?_; rintro e V56 ⟨wa, wc, rfl, ol56', hb56⟩; have hB56 : Below W0.heap.size W0 V56 := bstep hB55 hB55.size hb56; have ol56 := owns_mono ol56' hB55.size; have of56 := owns_below of55 hb56; have hd56 := gath_apart of55 ol56'; have bx56 := boxed_below bx55 hb56; have c56 := HD.out _ hB56)
              try (refine hK _ _ ?_)
              try clear hK K
              refine wpAny_ready (rs := [6]) (by kernel_rfl) (by simp) ?_
              refine AllReady.cons rfl (fun K hK => ?_) ?_
              · have cb57 := bx56.cell
                have fr57 := bx56.frozen
                go_simp
                refine hK _ _ ?_
                try clear hK K
                refine wpAny_ready (rs := [7]) (by kernel_rfl) (by simp) ?_
                refine AllReady.cons rfl (fun K hK => ?_) ?_
                · go_simp
                  refine hK _ _ ?_
                  try clear hK K
                  refine wpAny_done (by kernel_rfl) ?_ _
                  go_wp2_with fail
                  go_meet
                  exact gath_leaf HZ0.out b0 x0 hB56 bx56 fl54 of56 ol56 hd56
                exact AllReady.nil
              exact AllReady.nil
            exact AllReady.nil
          exact AllReady.nil
        exact AllReady.nil
      refine AllReady.cons rfl (fun K hK => ?_) ?_
      · go_simp
        refine hK _ _ ?_
        try clear hK K
        obtain ⟨V59, hV59⟩ : ∃ V59, World.alloc W1 (.cells #[.slice none 0 0] 60) = V59 := ⟨_, rfl⟩
        rw [hV59]
        have hB59 : Below W0.heap.size W0 V59 := by rw [← hV59]; exact hB0.alloc hB0.size _
        have c59 := HD.out _ hB59
        have bx59 : Boxed V59 W1.heap.size 60 (.slice none 0 0) := by rw [← hV59]; exact Boxed.new W1 60 (.slice none 0 0)
        have fl59 : W0.heap.size ≤ W1.heap.size := hB0.size
        clear hV59
        refine wpAny_ready (rs := [1]) (by kernel_rfl) (by simp) ?_
        refine AllReady.cons rfl (fun K hK => ?_) ?_
        · go_simp
          refine hK _ _ ?_
          try clear hK K
          obtain ⟨V60, hV60⟩ : ∃ V60, World.alloc V59 (.cells #[.int .i64 (h : Int)] 3) = V60 := ⟨_, rfl⟩
          rw [hV60]
          have hB60 : Below W0.heap.size W0 V60 := by rw [← hV60]; exact hB59.alloc hB59.size _
          have c60 := HD.out _ hB60
          have bi60 : Boxed V60 V59.heap.size 3 (.int .i64 (h : Int)) := by rw [← hV60]; exact Boxed.new V59 3 (.int .i64 (h : Int))
          have bx60 : Boxed V60 W1.heap.size 60 (.slice none 0 0) := by rw [← hV60]; exact bx59.alloc _
          clear hV60
          refine wpAny_ready (rs := [2]) (by kernel_rfl) (by simp) ?_
          refine AllReady.cons rfl (fun K hK => ?_) ?_
          · go_simp
            go_wp2_with (go_at_call 72; refine (HSO.out _ _ bi60.cell).mono ?_; rintro e V61 ⟨fa, fc, rfl, of61', hb61⟩; have hB61 : Below W0.heap.size W0 V61 := bstep hB60 hB60.size hb61; have c61 := HD.out _ hB61; have of61 := owns_mono of61' hB60.size; have bx61 := boxed_below bx60 hb61)
            try (refine hK _ _ ?_)
            try clear hK K
            refine wpAny_ready (rs := [4]) (by kernel_rfl) (by simp) ?_
            refine AllReady.cons rfl (fun K hK => ?_) ?_
            · go_simp
              go_wp2_with (go_at_call 28; refine (HLI.out _ (b0.trans (hB61.mono b0.size))).mono ?_; rintro e V62 ⟨wa, wc, rfl, ol62', hb62⟩; have hB62 : Below W0.heap.size W0 V62 := bstep hB61 hB61.size hb62; have ol62 := owns_mono ol62' hB61.size; have of62 := owns_below of61 hb62; have hd62 := gath_apart of61 ol62'; have bx62 := boxed_below bx61 hb62; have c62 := HD.out _ hB62)
              try (refine hK _ _ ?_)
              try clear hK K
              refine wpAny_ready (rs := [6]) (by kernel_rfl) (by simp) ?_
              refine AllReady.cons rfl (fun K hK => ?_) ?_
              · have cb63 := bx62.cell
                have fr63 := bx62.frozen
                go_simp
                refine hK _ _ ?_
                try clear hK K
                refine wpAny_ready (rs := [7]) (by kernel_rfl) (by simp) ?_
                refine AllReady.cons rfl (fun K hK => ?_) ?_
                · go_simp
                  refine hK _ _ ?_
                  try clear hK K
                  refine wpAny_done (by kernel_rfl) ?_ _
                  go_wp2_with fail
                  go_meet
                  exact gath_leaf HZ0.out b0 x0 hB62 bx62 fl59 of62 ol62 hd62
                exact AllReady.nil
              exact AllReady.nil
            exact AllReady.nil
          exact AllReady.nil
        exact AllReady.nil
      exact AllReady.nil
    refine AllReady.cons rfl (fun K hK => ?_) ?_
    · go_simp
      refine hK _ _ ?_
      try clear hK K
      obtain ⟨V65, hV65⟩ : ∃ V65, World.alloc W1 (.cells #[.slice none 0 0] 60) = V65 := ⟨_, rfl⟩
      rw [hV65]
      have hB65 : Below W0.heap.size W0 V65 := by rw [← hV65]; exact hB0.alloc hB0.size _
      have c65 := HD.out _ hB65
      have bx65 : Boxed V65 W1.heap.size 60 (.slice none 0 0) := by rw [← hV65]; exact Boxed.new W1 60 (.slice none 0 0)
      have fl65 : W0.heap.size ≤ W1.heap.size := hB0.size
      clear hV65
      refine wpAny_ready (rs := [1, 3]) (by kernel_rfl) (by simp) ?_
      refine AllReady.cons rfl (fun K hK => ?_) ?_
      · go_simp
        refine hK _ _ ?_
        try clear hK K
        obtain ⟨V66, hV66⟩ : ∃ V66, World.alloc V65 (.cells #[.int .i64 (h : Int)] 3) = V66 := ⟨_, rfl⟩
        rw [hV66]
        have hB66 : Below W0.heap.size W0 V66 := by rw [← hV66]; exact hB65.alloc hB65.size _
        have c66 := HD.out _ hB66
        have bi66 : Boxed V66 V65.heap.size 3 (.int .i64 (h : Int)) := by rw [← hV66]; exact Boxed.new V65 3 (.int .i64 (h : Int))
        have bx66 : Boxed V66 W1.heap.size 60 (.slice none 0 0) := by rw [← hV66]; exact bx65.alloc _
        clear hV66
        refine wpAny_ready (rs := [2, 3]) (by kernel_rfl) (by simp) ?_
        refine AllReady.cons rfl (fun K hK => ?_) ?_
        · go_simp
          go_wp2_with (go_at_call 72; refine (HSO.out _ _ bi66.cell).mono ?_; rintro e V67 ⟨fa, fc, rfl, of67', hb67⟩; have hB67 : Below W0.heap.size W0 V67 := bstep hB66 hB66.size hb67; have c67 := HD.out _ hB67; have of67 := owns_mono of67' hB66.size; have bx67 := boxed_below bx66 hb67)
          try (refine hK _ _ ?_)
          try clear hK K
          refine wpAny_ready (rs := [3]) (by kernel_rfl) (by simp) ?_
          refine AllReady.cons rfl (fun K hK => ?_) ?_
          · go_simp
            refine hK _ _ ?_
            try clear hK K
            refine wpAny_ready (rs := [4]) (by kernel_rfl) (by simp) ?_
            refine AllReady.cons rfl (fun K hK => ?_) ?_
            · go_simp
              go_wp2_with (go_at_call 28; refine (HLI.out _ (b0.trans (hB67.mono b0.size))).mono ?_; rintro e V69 ⟨wa, wc, rfl, ol69', hb69⟩; have hB69 : Below W0.heap.size W0 V69 := bstep hB67 hB67.size hb69; have ol69 := owns_mono ol69' hB67.size; have of69 := owns_below of67 hb69; have hd69 := gath_apart of67 ol69'; have bx69 := boxed_below bx67 hb69; have c69 := HD.out _ hB69)
              try (refine hK _ _ ?_)
              try clear hK K
              refine wpAny_ready (rs := [6]) (by kernel_rfl) (by simp) ?_
              refine AllReady.cons rfl (fun K hK => ?_) ?_
              · have cb70 := bx69.cell
                have fr70 := bx69.frozen
                go_simp
                refine hK _ _ ?_
                try clear hK K
                refine wpAny_ready (rs := [7]) (by kernel_rfl) (by simp) ?_
                refine AllReady.cons rfl (fun K hK => ?_) ?_
                · go_simp
                  refine hK _ _ ?_
                  try clear hK K
                  refine wpAny_done (by kernel_rfl) ?_ _
                  go_wp2_with fail
                  go_meet
                  exact gath_leaf HZ0.out b0 x0 hB69 bx69 fl65 of69 ol69 hd69
                exact AllReady.nil
              exact AllReady.nil
            exact AllReady.nil
          exact AllReady.nil
        refine AllReady.cons rfl (fun K hK => ?_) ?_
        · go_simp
          refine hK _ _ ?_
          try clear hK K
          refine wpAny_ready (rs := [2]) (by kernel_rfl) (by simp) ?_
          refine AllReady.cons rfl (fun K hK => ?_) ?_
          · go_simp
            go_wp2_with (go_at_call 72; refine (HSO.out _ _ bi66.cell).mono ?_; rintro e V73 ⟨fa, fc, rfl, of73', hb73⟩; have hB73 : Below W0.heap.size W0 V73 := bstep hB66 hB66.size hb73; have c73 := HD.out _ hB73; have of73 := owns_mono of73' hB66.size; have bx73 := boxed_below bx66 hb73)
            try (refine hK _ _ ?_)
            try clear hK K
            refine wpAny_ready (rs := [4]) (by kernel_rfl) (by simp) ?_
            refine AllReady.cons rfl (fun K hK => ?_) ?_
            · go_simp
              go_wp2_with (go_at_call 28; refine (HLI.out _ (b0.trans (hB73.mono b0.size))).mono ?_; rintro e V74 ⟨wa, wc, rfl, ol74', hb74⟩; have hB74 : Below W0.heap.size W0 V74 := bstep hB73 hB73.size hb74; have ol74 := owns_mono ol74' hB73.size; have of74 := owns_below of73 hb74; have hd74 := gath_apart of73 ol74'; have bx74 := boxed_below bx73 hb74; have c74 := HD.out _ hB74)
              try (refine hK _ _ ?_)
              try clear hK K
              refine wpAny_ready (rs := [6]) (by kernel_rfl) (by simp) ?_
              refine AllReady.cons rfl (fun K hK => ?_) ?_
              · have cb75 := bx74.cell
                have fr75 := bx74.frozen
                go_simp
                refine hK _ _ ?_
                try clear hK K
                refine wpAny_ready (rs := [7]) (by kernel_rfl) (by simp) ?_
                refine AllReady.cons rfl (fun K hK => ?_) ?_
                · go_simp
                  refine hK _ _ ?_
                  try clear hK K
                  refine wpAny_done (by kernel_rfl) ?_ _
                  go_wp2_with fail
                  go_meet
                  exact gath_leaf HZ0.out b0 x0 hB74 bx74 fl65 of74 ol74 hd74
                exact AllReady.nil
              exact AllReady.nil
            exact AllReady.nil
          exact AllReady.nil
        exact AllReady.nil
      refine AllReady.cons rfl (fun K hK => ?_) ?_
      · go_simp
        refine hK _ _ ?_
        try clear hK K
        refine wpAny_ready (rs := [1]) (by kernel_rfl) (by simp) ?_
        refine AllReady.cons rfl (fun K hK => ?_) ?_
        · go_simp
          refine hK _ _ ?_
          try clear hK K
          obtain ⟨V78, hV78⟩ : ∃ V78, World.alloc V65 (.cells #[.int .i64 (h : Int)] 3) = V78 := ⟨_, rfl⟩
          rw [hV78]
          have hB78 : Below W0.heap.size W0 V78 := by rw [← hV78]; exact hB65.alloc hB65.size _
          have c78 := HD.out _ hB78
          have bi78 : Boxed V78 V65.heap.size 3 (.int .i64 (h : Int)) := by rw [← hV78]; exact Boxed.new V65 3 (.int .i64 (h : Int))
          have bx78 : Boxed V78 W1.heap.size 60 (.slice none 0 0) := by rw [← hV78]; exact bx65.alloc _
          clear hV78
          refine wpAny_ready (rs := [2]) (by kernel_rfl) (by simp) ?_
          refine AllReady.cons rfl (fun K hK => ?_) ?_
          · go_simp
            go_wp2_with (go_at_call 72; refine (HSO.out _ _ bi78.cell).mono ?_; rintro e V79 ⟨fa, fc, rfl, of79', hb79⟩; have hB79 : Below W0.heap.size W0 V79 := bstep hB78 hB78.size hb79; have c79 := HD.out _ hB79; have of79 := owns_mono of79' hB78.size; have bx79 := boxed_below bx78 hb79)
            try (refine hK _ _ ?_)
            try clear hK K
            refine wpAny_ready (rs := [4]) (by kernel_rfl) (by simp) ?_
            refine AllReady.cons rfl (fun K hK => ?_) ?_
            · go_simp
              go_wp2_with (go_at_call 28; refine (HLI.out _ (b0.trans (hB79.mono b0.size))).mono ?_; rintro e V80 ⟨wa, wc, rfl, ol80', hb80⟩; have hB80 : Below W0.heap.size W0 V80 := bstep hB79 hB79.size hb80; have ol80 := owns_mono ol80' hB79.size; have of80 := owns_below of79 hb80; have hd80 := gath_apart of79 ol80'; have bx80 := boxed_below bx79 hb80; have c80 := HD.out _ hB80)
              try (refine hK _ _ ?_)
              try clear hK K
              refine wpAny_ready (rs := [6]) (by kernel_rfl) (by simp) ?_
              refine AllReady.cons rfl (fun K hK => ?_) ?_
              · have cb81 := bx80.cell
                have fr81 := bx80.frozen
                go_simp
                refine hK _ _ ?_
                try clear hK K
                refine wpAny_ready (rs := [7]) (by kernel_rfl) (by simp) ?_
                refine AllReady.cons rfl (fun K hK => ?_) ?_
                · go_simp
                  refine hK _ _ ?_
                  try clear hK K
                  refine wpAny_done (by kernel_rfl) ?_ _
                  go_wp2_with fail
                  go_meet
                  exact gath_leaf HZ0.out b0 x0 hB80 bx80 fl65 of80 ol80 hd80
                exact AllReady.nil
              exact AllReady.nil
            exact AllReady.nil
          exact AllReady.nil
        exact AllReady.nil
      exact AllReady.nil
    exact AllReady.nil
  case rest =>
    obtain ⟨wo, rfl⟩ : ∃ wo : World, wo = wc := ⟨_, rfl⟩
    obtain ⟨fb, fa, fc, wa, wcp, rfl, rfl, hsep, hB, hbb⟩ := hcut
    have HS0 := hid (And.intro hsep (And.intro hB hbb))
    clear hsep hB hbb b0 d0 x0 HZ0 HD HSO HLI
    go_wp2_with fail
    go_loopw [8] (fun t8 wr => ∃ (found wait pre : List Nat) (x : OR) (fv : Value), Que t8 wait x pre ∧ Sep wr (w.heap.size + 2) [cellOR 60 1 fb [fv], ⟨3, 1, fv, found.length, ints (nats found)⟩, x] ∧ Gath g D h found wait ∧ Below w.heap.size w wr ∧ Boxed wr (w.heap.size + 1) 60 (.slice none 0 0) ∧ w.heap.size + 2 ≤ wr.heap.size ∧ pre.length + 13 * (12 - found.length) + wait.length ≤ 400) (fun t8 wr => 13 * (12 - lenV ((wr.cell? ⟨fb, 0, none⟩).getD undef)) + lenV t8)
    case atStart => exact ⟨[h], S, [], _, _, Que.whole, HS0.out.1, Gath.begin H.out.1, HS0.out.2.1, HS0.out.2.2, by have := HS0.out.2.2.lt; omega, by simp; omega⟩
    case round =>
      obtain ⟨found, wait, pre, x, fv, hq, hs, hg, hBr, hbr, hz, hm⟩ := hrel
      have hxo : x.own wr (w.heap.size + 2) := hs.1 x (by simp)
      have hfo : wr.ownsRow (w.heap.size + 2) 3 1 fv found.length (ints (nats found)) := hs.1 ⟨3, 1, fv, found.length, ints (nats found)⟩ (by simp)
      obtain ⟨fa, fc, rfl⟩ := own_slice hfo
      obtain ⟨ua, uc, rfl⟩ := hq.slice hxo
      have c7 : wr.cell? ⟨fb, 0, none⟩ = some (.slice fa found.length fc) := Sep.cell hs (x := cellOR 60 1 fb [.slice fa found.length fc]) (by simp) rfl rfl
      have hfl : found.length ≤ 12 := hg.few G hh
      cases wait with
      | nil =>
        have HE := hid (And.intro hg.end (And.intro hfo hBr))
        have c6 := hbr.cell
        have f6 := hbr.frozen
        have HX6 := hid (hbr.set (.slice fa found.length fc)).cell
        clear hq hs hg hBr hfo hxo
        go_wp2
        refine bodyPost_ret (v := .agg #[.slice fa found.length fc]) (by simp [results, Tryz.results58, go_sem, HX6.out]) rfl ?_
        exact ⟨fa, fc, found, rfl, owns_mono (ownsRow_setCell_below HE.out.2.1 (show w.heap.size + 1 < w.heap.size + 2 by omega) _) (show w.heap.size ≤ w.heap.size + 2 by omega), HE.out.1, HE.out.2.2.setCell (show w.heap.size ≤ w.heap.size + 1 by omega) _⟩
      | cons at1 s =>
        obtain ⟨b, cap, hv, hcap, hcell, hnext⟩ := hq.cons hxo
        simp only [List.length_cons] at hv ⊢
        injection hv with e1 e2 e3
        subst e1 e3
        have HN := hid hnext
        have HQ := hid (And.intro hs (And.intro hg (And.intro hBr hbr)))
        have hat : at1 < g.length := RchW.lt G ((hg.waitIn at1 (by simp)).come G hh)
        have HH := hid (has_any fa fc found at1 wr (by omega) (own_row (by rw [nats_length]; exact hfo)) hg.rising)
        simp only [List.length_cons] at hm
        clear hq hnext hs hg hBr hbr hxo hfo HS0
        go_upto_region 4 with fail
        go_cut [8] from 21 to 22 (fun t8 wx => wx = wr ∧ ∃ k cap', t8 = .slice (some ⟨b, k, none⟩) s.length cap' ∧ ((k = pre.length + 1 ∧ cap' + 1 = uc) ∨ (uc = 1 ∧ cap' = 0)))
        case first =>
          by_cases h1 : uc = 1
          · subst h1
            go_wp2_with fail
            go_meet
            have hs0 : s.length = 0 := by omega
            refine ⟨rfl, pre.length, 0, by rw [hs0], ?_⟩
            right
            simp
          · go_wp2_with fail
            go_meet
            exact ⟨rfl, _, _, rfl, .inl ⟨rfl, by omega⟩⟩
        case rest =>
          obtain ⟨rfl, k, cap', rfl, hk⟩ := hcut
          have HQ2 := hid (HN.out k cap' hk)
          clear hk HN
          by_cases hin : at1 ∈ found
          · rw [decide_eq_true hin] at HH
            go_wp2_with fail
            refine HH.out.mono ?_
            rintro e w1 ⟨rfl, hb1⟩
            have HG := hid (HQ.out.2.1.skip hin)
            go_wp2
            go_roundw
            case rel => exact ⟨found, s, pre ++ [at1], x, _, HQ2.out, HQ.out.1.below hb1, HG.out, bstep' HQ.out.2.2.1 hb1, boxed_below HQ.out.2.2.2 hb1, Nat.le_trans hz hb1.size, by rw [List.length_append, List.length_singleton]; omega⟩
            case measure => rw [cell_below c7 hb1, c7]; simp [lenV]
          · rw [decide_eq_false hin] at HH
            go_wp2_with fail
            refine HH.out.mono ?_
            rintro e w1 ⟨rfl, hb1⟩
            have HA := hid (add_any 60 1 fb 1 1 0 [.slice fa found.length fc] (.slice fa found.length fc) found at1 [x] (w.heap.size + 2) w1 (HQ.out.1.below hb1) rfl HQ.out.2.1.rising (by omega) (Nat.le_trans hz hb1.size))
            go_wp2_with fail
            refine HA.out.mono ?_
            rintro e w2 ⟨rfl, sv', hs2, ho2, hn2⟩
            have hz1 : w.heap.size + 2 ≤ w1.heap.size := Nat.le_trans hz hb1.size
            have hfb : w.heap.size + 2 ≤ fb := (Sep.size HQ.out.1 (x := cellOR 60 1 fb [.slice fa found.length fc]) (by simp) rfl).1
            have hnf : ∀ k, (k = fb ∨ (Value.slice fa found.length fc).ownBlock = some k) → w.heap.size + 2 ≤ k := fun k hk => by
              rcases hk with rfl | hk
              · exact hfb
              · exact (Sep.size HQ.out.1 (x := ⟨3, 1, .slice fa found.length fc, found.length, ints (nats found)⟩) (by simp) hk).1
            have B1 := bstep' HQ.out.2.2.1 hb1
            have B2 : Below w.heap.size w w2 := ho2.below B1 (fun k hk => by have := hnf k hk; omega)
            have X2 : Boxed w2 (w.heap.size + 1) 60 (.slice none 0 0) := (ho2.block (w.heap.size + 1) (by omega) (fun hk => by have := hnf _ hk; omega)).trans (boxed_below HQ.out.2.2.2 hb1)
            obtain ⟨r, hr⟩ : ∃ r, P[at1]? = some r := ⟨_, List.getElem?_eq_getElem (by rw [H.out.2.2.2.2.1]; exact hat)⟩
            obtain ⟨rv, hrv⟩ := own_of_lists H.out.2.2.2.1 hr
            have hro := Sep.get H.out.2.2.1 (x := rowL ⟨nats r, rv⟩) (List.mem_cons_of_mem _ (List.mem_map_of_mem (List.mem_of_getElem? hrv)))
            obtain ⟨ra, rc, hrve⟩ := slice_of_owned hro
            simp only [rowL, nats_length] at hrve hro
            subst hrve
            have hrr : Row w ra (nats r) := own_row (c := rc) (by rw [nats_length]; exact hro)
            have hrm : ∀ k, k ∈ r ↔ Lead g k at1 := fun k => ((H.out.2.2.2.2.2 at1 r hr).2 k).trans (edges_all G k at1)
            have hrl : r.length ≤ 12 := by
              have h8 := nodup_le (n := g.length) (rising_nodup (H.out.2.2.2.2.2 at1 r hr).1) (fun x hx => RchW.lt G ((hrm x).1 hx).1)
              omega
            have hyl : ys.length = g.length := by have := congrArg List.length H.out.2.2.2.1; rw [lists_length] at this; simp [natsL, H.out.2.2.2.2.1] at this; exact this
            have HLO := hid (leadersOf_any Bx lb lc g.length ys B0 at1 r ra rc w2 (cell_below H.out.2.1 B2) (Sep.below H.out.2.2.1 B2) hyl (by omega) hrv)
            have HG2 := hid (And.intro hs2 (HQ.out.2.1.add hin hrm))
            have hz2 : w.heap.size + 2 ≤ w2.heap.size := Nat.le_trans hz1 ho2.size
            have hrb : ∀ b off, ra = some ⟨b, off, none⟩ → b < w.heap.size := fun b off e => (hro.lt b (by rw [e]; rfl)).2
            have HRR := hid (And.intro hrr hrb)
            clear hs2 ho2 hn2 hro hrv hr hrm hrr hrb hnf
            go_wp2_with fail
            refine HLO.out.mono ?_
            rintro e w3 ⟨rfl, hb3⟩
            go_wp2_with fail
            refine (all_any ra r.length rc w3).mono ?_
            rintro e w4 ⟨rfl, rfl⟩
            have b4 := below2 w3 (.cells #[.slice ra r.length rc] 60) (.cells #[.slice ra r.length rc] 35)
            have B4 := bstep' (bstep' B2 hb3) b4
            have X4 := boxed_below (boxed_below X2 hb3) b4
            have c4 : ((w3.alloc (.cells #[.slice ra r.length rc] 60)).alloc (.cells #[.slice ra r.length rc] 35)).cell? ⟨w3.heap.size + 1, 0, none⟩ = some (.slice ra r.length rc) := by
              have := Boxed.new (w3.alloc (.cells #[.slice ra r.length rc] 60)) 35 (.slice ra r.length rc)
              rw [World.size_alloc] at this
              exact this.cell
            have hxB : ∀ k, x.v.ownBlock = some k → w.heap.size + 2 ≤ k := fun k hk => (Sep.size HG2.out.1 (x := x) (by simp) hk).1
            obtain ⟨W4, hW4⟩ : ∃ W4, ((w3.alloc (.cells #[.slice ra r.length rc] 60)).alloc (.cells #[.slice ra r.length rc] 35)) = W4 := ⟨_, rfl⟩
            have HS4 := hid (Sep.below (Sep.below HG2.out.1 hb3) b4)
            rw [hW4] at b4 B4 X4 c4 HS4 ⊢
            have hz4 : w.heap.size + 2 ≤ W4.heap.size := by have := hb3.size; have := b4.size; omega
            have HAS := hid (appendSeq_any (.slice (some ⟨b, k, none⟩) s.length cap') s (pre ++ [at1]) x [cellOR 60 1 fb [sv'], ⟨3, 1, sv', (putL found at1).length, ints (nats (putL found at1))⟩] [] (w.heap.size + 2) (w3.heap.size + 1) ra rc r W4 HQ2.out HS4.out hz4 (by omega) (by rw [List.length_append, List.length_singleton]; omega) c4 (HRR.out.1.below B4) (fun b off e hk => by have := HRR.out.2 b off e; have := hxB b hk; omega))
            have hf2 := HG2.out.2.few G hh
            rw [putL_len' _ _ hin] at hf2
            clear HS4 hb3 b4 c4
            go_wp2_with fail
            refine HAS.out.mono ?_
            rintro e w5 ⟨v', x', pre', rfl, hs5, hq5, hp5, ho5, hn5⟩
            have hl5 : (putL found at1).length = found.length + 1 := putL_len' _ _ hin
            have B5 : Below w.heap.size w w5 := ho5.below B4 (fun k hk => by have := hxB k hk; omega)
            have X5 : Boxed w5 (w.heap.size + 1) 60 (.slice none 0 0) := (ho5.block (w.heap.size + 1) (by omega) (fun hk => by have := hxB _ hk; omega)).trans X4
            have c5 : w5.cell? ⟨fb, 0, none⟩ = some sv' := Sep.cell hs5 (x := cellOR 60 1 fb [sv']) (by simp) rfl rfl
            obtain ⟨sa5, sc5, hsv5⟩ := slice_of_owned (Sep.get hs5 (x := ⟨3, 1, sv', (putL found at1).length, ints (nats (putL found at1))⟩) (by simp))
            obtain ⟨qa5, qc5, hv5⟩ := hq5.slice (hs5.1 x' (by simp))
            simp only [] at hsv5
            have HF := hid (And.intro hs5 (And.intro hq5 (And.intro B5 (And.intro X5 (And.intro (Nat.le_trans hz4 ho5.size) c5)))))
            rw [List.length_append, List.length_singleton] at hp5
            have HV5 := hid (And.intro hsv5 hv5)
            clear hs5 hq5 ho5 hn5 B5 X5 c5 HAS hsv5 hv5
            go_wp2
            go_roundw
            case rel => exact ⟨putL found at1, s ++ r, pre', x', sv', HF.out.2.1, HF.out.1, HG2.out.2, HF.out.2.2.1, HF.out.2.2.2.1, HF.out.2.2.2.2.1, by rw [hl5, List.length_append]; omega⟩
            case measure =>
              rw [HF.out.2.2.2.2.2, c7, HV5.out.1, HV5.out.2]
              simp [lenV, hl5]
              omega
end Go.Proofs.YtiadmmnnbnamjaaGreat
