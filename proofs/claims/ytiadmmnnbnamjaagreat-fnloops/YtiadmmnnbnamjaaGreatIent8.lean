/- The nodes from which one comes into a loop: the program. -/
import Derived.Test.YtiadmmnnbnamjaaGreatQ5
import Derived.Test.YtiadmmnnbnamjaaGreatQ4
import Derived.Test.YtiadmmnnbnamjaaGreatOwn8
import Derived.Test.YtiadmmnnbnamjaaGreatRound8
import Derived.Deep.CutRange
import Derived.Deep.DeepCutAuto
namespace Go.Proofs.YtiadmmnnbnamjaaGreat
open Go Go.RowKit Go.Shelf
attribute [local go_sem] Oper.semAt_some
set_option linter.unusedVariables false
set_option linter.unusedSimpArgs false
set_option maxRecDepth 100000

/-- the row of those that lead to a node -/
theorem lead_row {g : List (List Nat)} (G : Gr g) {h : Nat} (hh : h < g.length) {w2 : World} {B lc : Nat} {la : Option Addr} {lys : List LV} {P : List (List Nat)} (hlo : OwnS w2 B (.slice la g.length lc) lys) (hls : lists lys = natsL P) (hlc : Came g.length (edgesL g) P) :
    ∃ lb sa sc r, la = some ⟨lb, 0, none⟩ ∧ w2.cell? ⟨lb, h, none⟩ = some (.slice sa (r : List Nat).length sc) ∧ Row w2 sa (nats r) ∧ r.Pairwise (· < ·) ∧ (∀ x, x ∈ r ↔ Lead g x h) ∧ ∀ b off, sa = some ⟨b, off, none⟩ → B ≤ b ∧ b < w2.heap.size := by
  have hlen : lys.length = g.length := by have := congrArg List.length hls; rw [lists_length] at this; simp [natsL, hlc.1] at this; exact this
  obtain ⟨lb, rfl⟩ : ∃ b, la = some ⟨b, 0, none⟩ := by
    rcases (Sep.get hlo (x := ⟨60, 1, .slice la g.length lc, lys.length, vals lys⟩) (by simp)).2 with ⟨h0, h1⟩ | ⟨g', cap, cur, he, _⟩
    · simp only [] at h0 h1; omega
    · injection he with e1 _ _; exact ⟨g', e1⟩
  obtain ⟨r, hr⟩ : ∃ r, P[h]? = some r := ⟨_, List.getElem?_eq_getElem (by rw [hlc.1]; exact hh)⟩
  obtain ⟨rv, hrv⟩ := own_of_lists hls hr
  have hro := Sep.get hlo (x := rowL ⟨nats r, rv⟩) (List.mem_cons_of_mem _ (List.mem_map_of_mem (List.mem_of_getElem? hrv)))
  obtain ⟨sa, sc, hrve⟩ := slice_of_owned hro
  simp only [rowL, nats_length] at hrve hro
  subst hrve
  exact ⟨lb, sa, sc, r, rfl, Sep.cell hlo (x := ⟨60, 1, .slice (some ⟨lb, 0, none⟩) g.length lc, lys.length, vals lys⟩) (by simp) rfl (by simp [vals, hrv]), own_row (c := sc) (by rw [nats_length]; exact hro), (hlc.2 h r hr).1, fun x => ((hlc.2 h r hr).2 x).trans (edges_all G x h), fun b off e => hro.lt b (by rw [e]; rfl)⟩
/-- where the range begins -/
def EStart (g : List (List Nat)) (X0 wx : World) (h : Nat) (t : Value) : Prop := ∃ Bs sa sc r, t = .func (.func 94) #[] #[.pointer (some ⟨Bs, 0, none⟩)] ∧ wx.cell? ⟨Bs, 0, none⟩ = some (.slice sa (r : List Nat).length sc) ∧ Bs < wx.heap.size ∧ Row wx sa (nats r) ∧ r.Pairwise (· < ·) ∧ (∀ x, x ∈ r ↔ Lead g x h) ∧ (∀ b off, sa = some ⟨b, off, none⟩ → X0.heap.size ≤ b ∧ b < wx.heap.size) ∧ Below X0.heap.size X0 wx
theorem ent_leaf {g : List (List Nat)} {X0 w2 : World} {h : Nat} {sa : Option Addr} {sc : Nat} {r : List Nat} (hB : Below X0.heap.size X0 w2) (hrr : Row w2 sa (nats r)) (hrs : r.Pairwise (· < ·)) (hrm : ∀ x, x ∈ r ↔ Lead g x h) {B : Nat} (hX : X0.heap.size ≤ B) (hrb : ∀ b off, sa = some ⟨b, off, none⟩ → B ≤ b ∧ b < w2.heap.size) :
    EStart g X0 ((w2.alloc (.cells #[.slice sa r.length sc] 60)).alloc (.cells #[.slice sa r.length sc] 35)) h (.func (.func 94) #[] #[.pointer (some ⟨w2.heap.size + 1, 0, none⟩)]) := by
  have := Boxed.new (w2.alloc (.cells #[.slice sa r.length sc] 60)) 35 (.slice sa r.length sc)
  rw [World.size_alloc] at this
  exact ⟨w2.heap.size + 1, sa, sc, r, rfl, this.cell, by simp, hrr.below (below2 _ _ _), hrs, hrm, (fun b off e => by have := hrb b off e; refine ⟨by omega, ?_⟩; simp; omega), bstep' hB (below2 _ _ _)⟩
set_option maxHeartbeats 8000000 in
theorem iEntr_yes {g : List (List Nat)} (G : Gr g) (k : Nat) (l : Nat × List Nat) (hS : l.2.Pairwise (· < ·)) (hSl : l.2.length ≤ 12) (hhd : l.1 < g.length) (a : Option Addr) (c : Nat) (w : World) (h : GRow w a g) (HRO : ∀ W, Below w.heap.size w W → Calls Tryz.prog 35 #[.agg #[.slice a g.length c], .int .i64 (k : Int)] W fun e w' => (∃ ra rc, e = .returned (.tuple #[.agg #[.int .i64 (l.1 : Int), .slice ra l.2.length rc], .bool true]) ∧ w'.ownsRow (W.heap.size + 2) 3 1 (.slice ra l.2.length rc) l.2.length (ints (nats l.2))) ∧ Below W.heap.size W w') :
    Calls Tryz.prog 12 #[.agg #[.slice a g.length c], .int .i64 (k : Int)] w fun e w' => ∃ va vc T, e = .returned (.tuple #[.slice va T.length vc, .bool true]) ∧ w'.ownsRow w.heap.size 3 1 (.slice va T.length vc) T.length (ints (nats T)) ∧ IsEntr g l T ∧ Below w.heap.size w w' := by
  have hgm := G.most
  have HB := hid HRO
  have HL := hid (fun W (hb : Below w.heap.size w W) => leaders_any G a c W (LRow.below h hb))
  have b0 := below1 w (.cells #[.slice a g.length c] 25)
  have d0 : (w.alloc (.cells #[.slice a g.length c] 25)).cell? ⟨w.heap.size, 0, none⟩ = some (.slice a g.length c) := by simp [go_sem]
  clear h HRO
  refine (callsIn_wide (n := 12)).1 ?_
  refine callsIn_of_wp_marks Tryz.func12 rfl trivial (wpIn_wide.2 ?_) rfl
  simp only [Tryz.ntmps12, List.size_toArray, List.length_cons, List.length_nil, Nat.reduceAdd, Nat.reduceSub, Array.replicate_succ, Array.replicate_zero, List.push_toArray, List.append_toArray, List.nil_append, List.cons_append]
  go_wp2_with fail
  refine (HB.out _ b0).mono ?_
  rintro e w1 ⟨⟨ra, rc, rfl, hro⟩, hb1⟩
  have d1 := cell_below d0 hb1
  obtain ⟨Y, hY⟩ : ∃ Y, w1.alloc (.cells #[.int .i64 (l.1 : Int), .slice ra l.2.length rc] 62) = Y := ⟨_, rfl⟩
  have zY : Y.heap.size = w1.heap.size + 1 := by rw [← hY]; simp
  have bY : Below w1.heap.size w1 Y := by rw [← hY]; exact below1 _ _
  have r0 : Y.cell? ⟨w1.heap.size, 0, none⟩ = some (.int .i64 (l.1 : Int)) := by rw [← hY]; simp [go_sem]
  have r1 : Y.cell? ⟨w1.heap.size, 1, none⟩ = some (.slice ra l.2.length rc) := by rw [← hY]; simp [go_sem]
  have hrr : Row Y ra (nats l.2) := (own_row (c := rc) (by rw [nats_length]; exact hro)).below bY
  obtain ⟨X0, hX0⟩ : ∃ X0, Y.alloc (.cells #[.slice none 0 0] 35) = X0 := ⟨_, rfl⟩
  have zX0 : X0.heap.size = w1.heap.size + 2 := by rw [← hX0]; simp [zY]
  have bX0 : Below Y.heap.size Y X0 := by rw [← hX0]; exact below1 _ _
  have BY : Below w.heap.size w Y := bstep' (bstep' b0 hb1) bY
  have BX0 : Below w.heap.size w X0 := bstep' BY bX0
  have xl : Boxed X0 (w1.heap.size + 1) 35 (.slice none 0 0) := by
    rw [← hX0, ← zY]
    exact Boxed.new Y 35 _
  have hz1 : w.heap.size + 1 ≤ w1.heap.size := by have := hb1.size; simp at this; omega
  have HH := hid (fun W (hb : Below Y.heap.size Y W) (x : Nat) => has_any ra rc l.2 x W (by omega) (hrr.below hb) hS)
  have HR1 := hid (fun W (hb : Below Y.heap.size Y W) => cell_below r1 hb)
  have HC0 := hid (fun W (hb : Below X0.heap.size X0 W) => And.intro (cell_below (cell_below (cell_below d1 bY) bX0) hb) (cell_below (cell_below r0 bX0) hb))
  clear hro hb1 d1 b0 d0 HB r0 r1 hrr bY
  go_upto_region 5 with fail
  try rw [hY]
  try rw [hX0]
  clear hY hX0
  go_cut [24] from 18 to 24 (fun t24 wx => EStart g X0 wx l.1 t24)
  case first =>
    refine region_plain (by kernel_rfl) ?_
    obtain ⟨W1, hW1⟩ : ∃ W1, X0.drew = W1 := ⟨_, rfl⟩
    rw [hW1]
    have hB0 : Below X0.heap.size X0 W1 := by rw [← hW1]; exact bdr (Below.refl _ X0)
    clear hW1
    obtain ⟨k0, l0⟩ := HC0.out _ hB0
    refine wpAny_ready (rs := [0, 2]) (by kernel_rfl) (by simp) ?_
    refine AllReady.cons rfl (fun K hK => ?_) ?_
    · go_simp
      refine hK _ _ ?_
      try clear hK K
      refine wpAny_ready (rs := [1, 2]) (by kernel_rfl) (by simp) ?_
      refine AllReady.cons rfl (fun K hK => ?_) ?_
      · go_simp
        go_wp2_with (go_at_call 36; refine (HL.out _ (BX0.trans (hB0.mono BX0.size))).mono ?_; rintro e w2 ⟨la, lc, lys, P, rfl, hlo, hls, hlc, hb2⟩; have hB2 := bstep hB0 hB0.size hb2; obtain ⟨k2, l2⟩ := HC0.out _ hB2; obtain ⟨lb, sa, sc, r, rfl, ck, hrr, hrs, hrm, hrb⟩ := lead_row G hhd hlo hls hlc)
        try (refine hK _ _ ?_)
        try clear hK K
        refine wpAny_ready (rs := [2]) (by kernel_rfl) (by simp) ?_
        refine AllReady.cons rfl (fun K hK => ?_) AllReady.nil
        go_simp
        refine hK _ _ ?_
        try clear hK K
        refine wpAny_ready (rs := [3]) (by kernel_rfl) (by simp) ?_
        refine AllReady.cons rfl (fun K hK => ?_) AllReady.nil
        go_simp
        refine hK _ _ ?_
        try clear hK K
        refine wpAny_ready (rs := [4]) (by kernel_rfl) (by simp) ?_
        refine AllReady.cons rfl (fun K hK => ?_) AllReady.nil
        go_simp
        refine hK _ _ ?_
        try clear hK K
        refine wpAny_ready (rs := [5]) (by kernel_rfl) (by simp) ?_
        refine AllReady.cons rfl (fun K hK => ?_) AllReady.nil
        go_simp
        refine hK _ _ ?_
        try clear hK K
        refine wpAny_ready (rs := [6]) (by kernel_rfl) (by simp) ?_
        refine AllReady.cons rfl (fun K hK => ?_) AllReady.nil
        go_simp
        go_wp2_with (go_at_call 37; refine (all_any sa r.length sc w2).mono ?_; rintro e w3 ⟨rfl, hw3⟩; subst hw3)
        try (refine hK _ _ ?_)
        try clear hK K
        refine wpAny_done (by kernel_rfl) ?_ _
        try go_simp
        go_wp2_with fail
        go_meet
        exact ent_leaf hB2 hrr hrs hrm hB0.size hrb
      refine AllReady.cons rfl (fun K hK => ?_) ?_
      · go_simp
        refine hK _ _ ?_
        try clear hK K
        refine wpAny_ready (rs := [1, 3]) (by kernel_rfl) (by simp) ?_
        refine AllReady.cons rfl (fun K hK => ?_) ?_
        · go_simp
          go_wp2_with (go_at_call 36; refine (HL.out _ (BX0.trans (hB0.mono BX0.size))).mono ?_; rintro e w2 ⟨la, lc, lys, P, rfl, hlo, hls, hlc, hb2⟩; have hB2 := bstep hB0 hB0.size hb2; obtain ⟨k2, l2⟩ := HC0.out _ hB2; obtain ⟨lb, sa, sc, r, rfl, ck, hrr, hrs, hrm, hrb⟩ := lead_row G hhd hlo hls hlc)
          try (refine hK _ _ ?_)
          try clear hK K
          refine wpAny_ready (rs := [3]) (by kernel_rfl) (by simp) ?_
          refine AllReady.cons rfl (fun K hK => ?_) AllReady.nil
          go_simp
          refine hK _ _ ?_
          try clear hK K
          refine wpAny_ready (rs := [4]) (by kernel_rfl) (by simp) ?_
          refine AllReady.cons rfl (fun K hK => ?_) AllReady.nil
          go_simp
          refine hK _ _ ?_
          try clear hK K
          refine wpAny_ready (rs := [5]) (by kernel_rfl) (by simp) ?_
          refine AllReady.cons rfl (fun K hK => ?_) AllReady.nil
          go_simp
          refine hK _ _ ?_
          try clear hK K
          refine wpAny_ready (rs := [6]) (by kernel_rfl) (by simp) ?_
          refine AllReady.cons rfl (fun K hK => ?_) AllReady.nil
          go_simp
          go_wp2_with (go_at_call 37; refine (all_any sa r.length sc w2).mono ?_; rintro e w3 ⟨rfl, hw3⟩; subst hw3)
          try (refine hK _ _ ?_)
          try clear hK K
          refine wpAny_done (by kernel_rfl) ?_ _
          try go_simp
          go_wp2_with fail
          go_meet
          exact ent_leaf hB2 hrr hrs hrm hB0.size hrb
        refine AllReady.cons rfl (fun K hK => ?_) ?_
        · go_simp
          refine hK _ _ ?_
          try clear hK K
          refine wpAny_ready (rs := [1]) (by kernel_rfl) (by simp) ?_
          refine AllReady.cons rfl (fun K hK => ?_) AllReady.nil
          go_simp
          go_wp2_with (go_at_call 36; refine (HL.out _ (BX0.trans (hB0.mono BX0.size))).mono ?_; rintro e w2 ⟨la, lc, lys, P, rfl, hlo, hls, hlc, hb2⟩; have hB2 := bstep hB0 hB0.size hb2; obtain ⟨k2, l2⟩ := HC0.out _ hB2; obtain ⟨lb, sa, sc, r, rfl, ck, hrr, hrs, hrm, hrb⟩ := lead_row G hhd hlo hls hlc)
          try (refine hK _ _ ?_)
          try clear hK K
          refine wpAny_ready (rs := [4]) (by kernel_rfl) (by simp) ?_
          refine AllReady.cons rfl (fun K hK => ?_) AllReady.nil
          go_simp
          refine hK _ _ ?_
          try clear hK K
          refine wpAny_ready (rs := [5]) (by kernel_rfl) (by simp) ?_
          refine AllReady.cons rfl (fun K hK => ?_) AllReady.nil
          go_simp
          refine hK _ _ ?_
          try clear hK K
          refine wpAny_ready (rs := [6]) (by kernel_rfl) (by simp) ?_
          refine AllReady.cons rfl (fun K hK => ?_) AllReady.nil
          go_simp
          go_wp2_with (go_at_call 37; refine (all_any sa r.length sc w2).mono ?_; rintro e w3 ⟨rfl, hw3⟩; subst hw3)
          try (refine hK _ _ ?_)
          try clear hK K
          refine wpAny_done (by kernel_rfl) ?_ _
          try go_simp
          go_wp2_with fail
          go_meet
          exact ent_leaf hB2 hrr hrs hrm hB0.size hrb
        exact AllReady.nil
      exact AllReady.nil
    refine AllReady.cons rfl (fun K hK => ?_) ?_
    · go_simp
      refine hK _ _ ?_
      try clear hK K
      refine wpAny_ready (rs := [0, 3]) (by kernel_rfl) (by simp) ?_
      refine AllReady.cons rfl (fun K hK => ?_) ?_
      · go_simp
        refine hK _ _ ?_
        try clear hK K
        refine wpAny_ready (rs := [1, 3]) (by kernel_rfl) (by simp) ?_
        refine AllReady.cons rfl (fun K hK => ?_) ?_
        · go_simp
          go_wp2_with (go_at_call 36; refine (HL.out _ (BX0.trans (hB0.mono BX0.size))).mono ?_; rintro e w2 ⟨la, lc, lys, P, rfl, hlo, hls, hlc, hb2⟩; have hB2 := bstep hB0 hB0.size hb2; obtain ⟨k2, l2⟩ := HC0.out _ hB2; obtain ⟨lb, sa, sc, r, rfl, ck, hrr, hrs, hrm, hrb⟩ := lead_row G hhd hlo hls hlc)
          try (refine hK _ _ ?_)
          try clear hK K
          refine wpAny_ready (rs := [3]) (by kernel_rfl) (by simp) ?_
          refine AllReady.cons rfl (fun K hK => ?_) AllReady.nil
          go_simp
          refine hK _ _ ?_
          try clear hK K
          refine wpAny_ready (rs := [4]) (by kernel_rfl) (by simp) ?_
          refine AllReady.cons rfl (fun K hK => ?_) AllReady.nil
          go_simp
          refine hK _ _ ?_
          try clear hK K
          refine wpAny_ready (rs := [5]) (by kernel_rfl) (by simp) ?_
          refine AllReady.cons rfl (fun K hK => ?_) AllReady.nil
          go_simp
          refine hK _ _ ?_
          try clear hK K
          refine wpAny_ready (rs := [6]) (by kernel_rfl) (by simp) ?_
          refine AllReady.cons rfl (fun K hK => ?_) AllReady.nil
          go_simp
          go_wp2_with (go_at_call 37; refine (all_any sa r.length sc w2).mono ?_; rintro e w3 ⟨rfl, hw3⟩; subst hw3)
          try (refine hK _ _ ?_)
          try clear hK K
          refine wpAny_done (by kernel_rfl) ?_ _
          try go_simp
          go_wp2_with fail
          go_meet
          exact ent_leaf hB2 hrr hrs hrm hB0.size hrb
        refine AllReady.cons rfl (fun K hK => ?_) ?_
        · go_simp
          refine hK _ _ ?_
          try clear hK K
          refine wpAny_ready (rs := [1]) (by kernel_rfl) (by simp) ?_
          refine AllReady.cons rfl (fun K hK => ?_) AllReady.nil
          go_simp
          go_wp2_with (go_at_call 36; refine (HL.out _ (BX0.trans (hB0.mono BX0.size))).mono ?_; rintro e w2 ⟨la, lc, lys, P, rfl, hlo, hls, hlc, hb2⟩; have hB2 := bstep hB0 hB0.size hb2; obtain ⟨k2, l2⟩ := HC0.out _ hB2; obtain ⟨lb, sa, sc, r, rfl, ck, hrr, hrs, hrm, hrb⟩ := lead_row G hhd hlo hls hlc)
          try (refine hK _ _ ?_)
          try clear hK K
          refine wpAny_ready (rs := [4]) (by kernel_rfl) (by simp) ?_
          refine AllReady.cons rfl (fun K hK => ?_) AllReady.nil
          go_simp
          refine hK _ _ ?_
          try clear hK K
          refine wpAny_ready (rs := [5]) (by kernel_rfl) (by simp) ?_
          refine AllReady.cons rfl (fun K hK => ?_) AllReady.nil
          go_simp
          refine hK _ _ ?_
          try clear hK K
          refine wpAny_ready (rs := [6]) (by kernel_rfl) (by simp) ?_
          refine AllReady.cons rfl (fun K hK => ?_) AllReady.nil
          go_simp
          go_wp2_with (go_at_call 37; refine (all_any sa r.length sc w2).mono ?_; rintro e w3 ⟨rfl, hw3⟩; subst hw3)
          try (refine hK _ _ ?_)
          try clear hK K
          refine wpAny_done (by kernel_rfl) ?_ _
          try go_simp
          go_wp2_with fail
          go_meet
          exact ent_leaf hB2 hrr hrs hrm hB0.size hrb
        exact AllReady.nil
      refine AllReady.cons rfl (fun K hK => ?_) ?_
      · go_simp
        refine hK _ _ ?_
        try clear hK K
        refine wpAny_ready (rs := [0]) (by kernel_rfl) (by simp) ?_
        refine AllReady.cons rfl (fun K hK => ?_) AllReady.nil
        go_simp
        refine hK _ _ ?_
        try clear hK K
        refine wpAny_ready (rs := [1]) (by kernel_rfl) (by simp) ?_
        refine AllReady.cons rfl (fun K hK => ?_) AllReady.nil
        go_simp
        go_wp2_with (go_at_call 36; refine (HL.out _ (BX0.trans (hB0.mono BX0.size))).mono ?_; rintro e w2 ⟨la, lc, lys, P, rfl, hlo, hls, hlc, hb2⟩; have hB2 := bstep hB0 hB0.size hb2; obtain ⟨k2, l2⟩ := HC0.out _ hB2; obtain ⟨lb, sa, sc, r, rfl, ck, hrr, hrs, hrm, hrb⟩ := lead_row G hhd hlo hls hlc)
        try (refine hK _ _ ?_)
        try clear hK K
        refine wpAny_ready (rs := [4]) (by kernel_rfl) (by simp) ?_
        refine AllReady.cons rfl (fun K hK => ?_) AllReady.nil
        go_simp
        refine hK _ _ ?_
        try clear hK K
        refine wpAny_ready (rs := [5]) (by kernel_rfl) (by simp) ?_
        refine AllReady.cons rfl (fun K hK => ?_) AllReady.nil
        go_simp
        refine hK _ _ ?_
        try clear hK K
        refine wpAny_ready (rs := [6]) (by kernel_rfl) (by simp) ?_
        refine AllReady.cons rfl (fun K hK => ?_) AllReady.nil
        go_simp
        go_wp2_with (go_at_call 37; refine (all_any sa r.length sc w2).mono ?_; rintro e w3 ⟨rfl, hw3⟩; subst hw3)
        try (refine hK _ _ ?_)
        try clear hK K
        refine wpAny_done (by kernel_rfl) ?_ _
        try go_simp
        go_wp2_with fail
        go_meet
        exact ent_leaf hB2 hrr hrs hrm hB0.size hrb
      exact AllReady.nil
    exact AllReady.nil
  case rest =>
    obtain ⟨wo, rfl⟩ : ∃ wo : World, wo = wc := ⟨_, rfl⟩
    obtain ⟨Bs, sa, sc, r, rfl, hcb, hBs, hrow, hrs, hrm, hrb, hbx⟩ := hcut
    have hrl : r.length ≤ 12 := by
      have h8 := nodup_le (n := g.length) (rising_nodup hrs) (fun x hx => RchW.lt G ((hrm x).1 hx).1)
      omega
    have zo := hbx.size
    have BX : Below w.heap.size w wo := BX0.trans (hbx.mono BX0.size)
    have bYX : Below Y.heap.size Y wo := bX0.trans (hbx.mono bX0.size)
    have xlo : Boxed wo (w1.heap.size + 1) 35 (.slice none 0 0) := boxed_below xl hbx
    have HRM := hid (And.intro hrs hrm)
    clear hbx xl bX0 HC0 HL hrs hrm
    go_wp2_with fail
    refine (wpIn_wide (n := 12)).1 ?_
    refine range_own2 rfl (by omega) (gf := 94) (lb := #[.pointer (some ⟨Bs, 0, none⟩)]) rfl trivial (enters_of Tryz.func94 (by kernel_rfl) rfl)
      (values_own2 (fun x : Nat => (x : Int)) _ (by omega) Bs sa sc r (by omega) (fun k => k < wo.heap.size ∧ k ≠ w1.heap.size + 1) (fun b off e => by have := hrb b off e; omega) wo hrow hBs hcb) (fun k hk => hk.1) (Below.refl _ _) (fun _ => rfl)
      (fun T pre V => (∃ oa oc, Boxed V (w1.heap.size + 1) 35 (.slice oa (pre.filter fun x => !(decide (x ∈ l.2))).length oc) ∧ V.ownsRow T 3 1 (.slice oa (pre.filter fun x => !(decide (x ∈ l.2))).length oc) (pre.filter fun x => !(decide (x ∈ l.2))).length (ints (nats (pre.filter fun x => !(decide (x ∈ l.2)))))) ∧ Below Y.heap.size Y V ∧ T ≤ V.heap.size ∧ wo.heap.size ≤ T)
      (fun _ _ _ => False)
      (fun T s A B row hs hg hr => by
        obtain ⟨⟨oa, oc, h1, h2⟩, h4, h5, h6⟩ := hs
        exact ⟨⟨oa, oc, h1.kept hg (fun e => by have := (hr _ e.symm).1; omega), one_sep (l2 := []) (Sep.calm (sep_one h2) hg (fun r e => (hr r e).2))⟩, h4.grown hg h4.size (fun k e => by have := (hr _ e).1; omega), Nat.le_trans h5 hg.size, h6⟩)
      (fun _ _ _ _ _ hs _ _ => hs)
      (fun W' hg => ⟨⟨none, 0, xlo.kept hg (by simp), World.ownsRow_nil _ _ _ _⟩, bYX.grown hg bYX.size (fun k e => by cases e), Nat.le_refl _, hg.size⟩)
      (fun x => { tmps := #[Value.agg #[Value.slice a g.length c], Value.int IntKind.i64 ↑k, Value.pointer (some { block := w.heap.size, off := 0 }), undef, Value.slice none 0 0, Value.bool false, Value.pointer (some { block := w1.heap.size, off := 0 }), Value.bool true, Value.pointer (some { block := w1.heap.size + 1, off := 0 }), .int .i64 (x : Int), Value.tuple #[Value.agg #[Value.int IntKind.i64 ↑l.fst, Value.slice ra l.snd.length rc], Value.bool true], Value.agg #[Value.slice a g.length c], Value.int IntKind.i64 ↑k, Value.tuple #[Value.agg #[Value.int IntKind.i64 ↑l.fst, Value.slice ra l.snd.length rc], Value.bool true], Value.agg #[Value.int IntKind.i64 ↑l.fst, Value.slice ra l.snd.length rc], Value.bool true, Value.bool true, Value.bool false, u18, u19, u20, u21, u22, u23, Value.func (Fn.func 94) #[] #[Value.pointer (some { block := Bs, off := 0 })], .int .i64 (x : Int), undef, undef, undef, undef, undef, undef, undef, undef, undef, undef], defers := [] }) ?assign ?body ?done ?stop
    case assign =>
      intro l x W K hK
      gi_wp2
      exact hK
    case body =>
      rintro lv T pre x V hT ⟨⟨oa, oc, h1, h2⟩, h4, h5, h6⟩ hlen hSp
      have hpl : (pre.filter fun x => !(decide (x ∈ l.2))).length ≤ 1000 := Nat.le_trans (List.length_filter_le _ _) (by omega)
      obtain ⟨fl, hfl⟩ : ∃ fl, (pre.filter fun x => !(decide (x ∈ l.2))) = fl := ⟨_, rfl⟩
      rw [hfl] at h1 h2 hpl
      have HF : Hid (((pre ++ [x]).filter fun x => !(decide (x ∈ l.2))) = fl ++ [x].filter fun x => !(decide (x ∈ l.2))) := by show _ = _; rw [List.filter_append, hfl]
      have H1 := hid (HH.out V h4 x)
      have cV := HR1.out V h4
      have c1 := h1.cell
      clear hfl
      by_cases hf : x ∈ l.2
      · rw [decide_eq_true hf] at H1
        have HE : Hid (((pre ++ [x]).filter fun x => !(decide (x ∈ l.2))) = fl) := by show _ = _; rw [HF.out]; simp [hf]
        have SAME : Hid (∀ Z, Below V.heap.size V Z → KeepsOthers V Z ∧ Stay (fun k => k < wo.heap.size ∧ k ≠ w1.heap.size + 1) wo.heap.size T V Z ∧ ((∃ oa oc, Boxed Z (w1.heap.size + 1) 35 (.slice oa ((pre ++ [x]).filter fun x => !(decide (x ∈ l.2))).length oc) ∧ Z.ownsRow T 3 1 (.slice oa ((pre ++ [x]).filter fun x => !(decide (x ∈ l.2))).length oc) ((pre ++ [x]).filter fun x => !(decide (x ∈ l.2))).length (ints (nats ((pre ++ [x]).filter fun x => !(decide (x ∈ l.2)))))) ∧ Below Y.heap.size Y Z ∧ T ≤ Z.heap.size ∧ wo.heap.size ≤ T)) := fun Z hZ => ⟨keeps_below hZ, ⟨hZ.mono (Nat.zero_le _), fun k hk => hZ.block k (by omega)⟩, ⟨oa, oc, by rw [HE.out]; exact boxed_below h1 hZ, by rw [HE.out]; exact owns_below h2 hZ⟩, h4.trans (hZ.mono h4.size), Nat.le_trans h5 hZ.size, h6⟩
        clear h1 h2 c1
        gi_wp2_with fail
        refine ⟨trivial, ?_⟩
        gi_at_call 38
        refine (CallsIn.inRound lv (callsIn_wide.2 H1.out)).mono ?_
        rintro e Z ⟨rfl, hZ⟩
        gi_wp2
        exact SAME.out Z hZ
      · rw [decide_eq_false hf] at H1
        have HE : Hid (((pre ++ [x]).filter fun x => !(decide (x ∈ l.2))) = fl ++ [x]) := by show _ = _; rw [HF.out]; simp [hf]
        have HQ := hid (And.intro h1 h2)
        clear h1 h2 c1
        gi_wp2_with fail
        refine ⟨trivial, ?_⟩
        gi_at_call 38
        refine (CallsIn.inRound lv (callsIn_wide.2 H1.out)).mono ?_
        rintro e Z ⟨rfl, hZ⟩
        have hx1 := boxed_below HQ.out.1 hZ
        have hx2 := owns_below HQ.out.2 hZ
        have hx5 : T ≤ Z.heap.size := Nat.le_trans h5 hZ.size
        have c1 := hx1.cell
        obtain ⟨A1, hA1⟩ : ∃ A1, Z.alloc (.cells #[.int .i64 (x : Int)] 3) = A1 := ⟨_, rfl⟩
        have bA1 : Below Z.heap.size Z A1 := by rw [← hA1]; exact below1 _ _
        have bVA : Below V.heap.size V A1 := bstep' hZ bA1
        have HN1 : Hid (News A1 (some ⟨Z.heap.size, 0, none⟩) 1 1 [.int .i64 (x : Int)]) := by rw [← hA1]; exact News.one Z _ 3 _ rfl rfl
        have HS3 : Hid (Sep A1 T ([] ++ ⟨3, 1, .slice oa fl.length oc, fl.length, ints (nats fl)⟩ :: [])) := sep_one (owns_below hx2 bA1)
        have hb1 := boxed_below hx1 bA1
        have HVK : Hid (∀ k, (Value.slice oa fl.length oc).ownBlock = some k → (T ≤ k ∧ ∃ c' fz, A1.heap[k]? = some (.cells c' 3 fz))) := fun k hk => ⟨(hx2.lt k hk).1, own_kind (owns_below hx2 bA1) hk⟩
        have zA1 : T ≤ A1.heap.size := Nat.le_trans h5 bVA.size
        clear hx1 hx2 bA1 H1 cV
        gi_wp2_with (gi_at_builtin; refine wpListIn_append_sep eltInt rfl _ _ rfl T [] HS3.out rfl HN1.out rfl (by omega) zA1 ?_; intro va2 vc2 w5 hs2 hb2 hg2 hn2; have hb5 := hb1.kept hg2 (fun e => by have := (HVK.out _ e.symm).1; omega); have c5 := hb5.cell; have f5 := hb5.frozen)
        have ho5 : w5.ownsRow T 3 1 (.slice va2 (fl.length + 1) vc2) (fl.length + 1) (ints (nats (fl ++ [x]))) := by
          have := one_sep hs2
          have e : ints (nats (fl ++ [x])) = ints (nats fl) ++ [.int .i64 (x : Int)] := by simp [ints, nats]
          rw [e]
          exact this
        have hfar2 : ∀ k, ((k < wo.heap.size ∧ k ≠ w1.heap.size + 1) ∨ (wo.heap.size ≤ k ∧ k < T)) → (w5.setCell ⟨w1.heap.size + 1, 0, none⟩ (.slice va2 (fl.length + 1) vc2)).heap[k]? = V.heap[k]? := fun k hk => by
          have hkV : k < V.heap.size := by omega
          have hkA : k < A1.heap.size := Nat.lt_of_lt_of_le hkV bVA.size
          rw [Below.heap_setCell _ _ _ _ (show k ≠ w1.heap.size + 1 by omega), hg2.block k hkA (fun e => by have := (HVK.out _ e.symm).1; omega), bVA.block k hkV]
        have B5 : Below Y.heap.size Y w5 := (h4.trans (bVA.mono h4.size)).grown hg2 (Nat.le_trans h4.size bVA.size) (fun k e => by have := (HVK.out k e).1; omega)
        have s5 : V.heap.size ≤ w5.heap.size := Nat.le_trans bVA.size hg2.size
        refine ⟨((keeps_below bVA).trans (KeepsOthers.of_grownBy hg2 (fun j o e ho => by obtain ⟨c', fz, hc⟩ := (HVK.out j e).2; rw [hc] at ho; cases ho; rfl))).trans (KeepsOthers.setCell _ _ _), ⟨((bVA.mono (Nat.zero_le _)).grown hg2 (Nat.zero_le _) (fun k e => Nat.zero_le _)).setCell (Nat.zero_le _) _, hfar2⟩, ⟨va2, vc2, ?_, ?_⟩, B5.setCell (by show Y.heap.size ≤ w1.heap.size + 1; omega) _, Nat.le_trans h5 (by simp [World.setCell]; exact s5), h6⟩
        · rw [HE.out, List.length_append]
          exact hb5.set _
        · rw [HE.out, List.length_append]
          exact (Only.setCell w5 (w1.heap.size + 1) 0 _).own ho5 (fun k hk e => by have := (ho5.lt k hk).1; omega)
    case done =>
      rintro Dd T xs V hDd rfl ⟨⟨oa, oc, h1, h2⟩, h4, h5, h6⟩ hK
      have c1 := h1.cell
      go_wp2
      refine ⟨by simp, .inl ⟨_, _, rfl, run_takeDeferred hK, ?_⟩⟩
      exact ⟨.tuple #[.slice oa (xs.filter fun x => !(decide (x ∈ l.2))).length oc, .bool true], by simp [results, Tryz.results12, go_sem], oa, oc, _, rfl, owns_mono (one_sep (l2 := []) (Sep.calm (sep_one h2) (grownBy_putObj' V Dd _) (fun r e => by cases e; exact ⟨_, hK, rfl⟩))) (by have := BX.size; omega), ⟨List.Pairwise.filter _ HRM.out.1, fun y => by rw [List.mem_filter, HRM.out.2 y]; simp⟩, (BY.trans (h4.mono BY.size)).trans (belowK_b (w := w) (Nat.le_refl _) _ Dd _ _ (by have := BX.size; omega) hK rfl rfl)⟩
    case stop =>
      rintro D c pre W _ _ h _
      exact h.elim
end Go.Proofs.YtiadmmnnbnamjaaGreat

