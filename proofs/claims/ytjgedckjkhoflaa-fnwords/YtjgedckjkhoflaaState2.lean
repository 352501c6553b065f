/- What the laws' own copies and measures of a state are. -/
import Derived.Test.YtjgedckjkhoflaaLawNew
namespace Go.Proofs.Ytjgedckjkhoflaa
open Go.RowKit
set_option linter.unusedVariables false
set_option linter.unusedSimpArgs false
set_option maxRecDepth 100000

theorem szIntS_any (a : Option Addr) (c n : Nat) (r : Int) (w : World) (hn : n ≤ 9223372036854775807) (h0 : 0 ≤ r) (h1 : r ≤ 1048576) :
    Calls Try.prog 33 #[.slice a n c, .int .i64 r] w fun e w' => e = .returned (.int .i64 (if r < n then -1 else r - n)) ∧ w' = w := by
  by_cases h : r < n
  · rw [if_pos h]
    go_enter Try.func33, Try.ntmps33
    go_wp2
    go_ret
    exact ⟨rfl, rfl⟩
  · rw [if_neg h]
    go_enter Try.func33, Try.ntmps33
    go_wp2
    go_ret
    exact ⟨rfl, rfl⟩

/-- the laws' measure of a state: told, or too great -/
theorem szState_any (a1 a2 a3 : Option Addr) (c1 c2 c3 n1 n2 n3 : Nat) (r : Int) (w : World) (h1 : n1 ≤ 9223372036854775807) (h2 : n2 ≤ 9223372036854775807) (h3 : n3 ≤ 9223372036854775807) (hr0 : 0 ≤ r) (hr1 : r ≤ 1048576) :
    Calls Try.prog 18 #[.agg #[.slice a1 n1 c1, .slice a2 n2 c2, .slice a3 n3 c3], .int .i64 r] w fun e w' => (∃ q, e = .returned (.int .i64 q) ∧ (q < 0 ∨ (q ≤ r ∧ n1 ≤ 1048576 ∧ n2 ≤ 1048576 ∧ n3 ≤ 1048576))) ∧ Below w.heap.size w w' := by
  have z1 := fun w => szIntS_any a1 c1 n1 r w h1 hr0 hr1
  by_cases k1 : r < n1
  · rw [if_pos k1] at z1
    have Z1 := hid z1
    clear z1
    go_enter Try.func18, Try.ntmps18
    go_wp2_with fail
    refine Calls.mono (Z1.out _) ?_
    rintro e w1 ⟨rfl, rfl⟩
    go_wp2
    go_ret
    exact ⟨⟨_, rfl, .inl (by decide)⟩, below1 _ _⟩
  rw [if_neg k1] at z1
  obtain ⟨r1, e1, r10, r11⟩ : ∃ r1 : Int, r - (n1 : Int) = r1 ∧ 0 ≤ r1 ∧ r1 ≤ r := ⟨_, rfl, by omega, by omega⟩
  rw [e1] at z1
  have q1 : n1 ≤ 1048576 := by omega
  have Z1 := hid z1
  clear z1 e1
  have z2 := fun w => szIntS_any a2 c2 n2 r1 w h2 r10 (by omega)
  by_cases k2 : r1 < n2
  · rw [if_pos k2] at z2
    have Z2 := hid z2
    clear z2
    go_enter Try.func18, Try.ntmps18
    go_wp2_with fail
    refine Calls.mono (Z1.out _) ?_
    rintro e w1 ⟨rfl, rfl⟩
    go_wp2_with fail
    refine Calls.mono (Z2.out _) ?_
    rintro e w1 ⟨rfl, rfl⟩
    go_wp2
    go_ret
    exact ⟨⟨_, rfl, .inl (by decide)⟩, below1 _ _⟩
  rw [if_neg k2] at z2
  obtain ⟨r2, e2, r20, r21⟩ : ∃ r2 : Int, r1 - (n2 : Int) = r2 ∧ 0 ≤ r2 ∧ r2 ≤ r1 := ⟨_, rfl, by omega, by omega⟩
  rw [e2] at z2
  have q2 : n2 ≤ 1048576 := by omega
  have Z2 := hid z2
  clear z2 e2
  have z3 := fun w => szIntS_any a3 c3 n3 r2 w h3 r20 (by omega)
  by_cases k3 : r2 < n3
  · rw [if_pos k3] at z3
    have Z3 := hid z3
    clear z3
    go_enter Try.func18, Try.ntmps18
    go_wp2_with fail
    refine Calls.mono (Z1.out _) ?_
    rintro e w1 ⟨rfl, rfl⟩
    go_wp2_with fail
    refine Calls.mono (Z2.out _) ?_
    rintro e w1 ⟨rfl, rfl⟩
    go_wp2_with fail
    refine Calls.mono (Z3.out _) ?_
    rintro e w1 ⟨rfl, rfl⟩
    go_wp2
    go_ret
    exact ⟨⟨_, rfl, .inl (by decide)⟩, below1 _ _⟩
  rw [if_neg k3] at z3
  obtain ⟨r3, e3, r30, r31⟩ : ∃ r3 : Int, r2 - (n3 : Int) = r3 ∧ 0 ≤ r3 ∧ r3 ≤ r2 := ⟨_, rfl, by omega, by omega⟩
  rw [e3] at z3
  have q3 : n3 ≤ 1048576 := by omega
  have Z3 := hid z3
  clear z3 e3
  go_enter Try.func18, Try.ntmps18
  go_wp2_with fail
  refine Calls.mono (Z1.out _) ?_
  rintro e w1 ⟨rfl, rfl⟩
  go_wp2_with fail
  refine Calls.mono (Z2.out _) ?_
  rintro e w1 ⟨rfl, rfl⟩
  go_wp2_with fail
  refine Calls.mono (Z3.out _) ?_
  rintro e w1 ⟨rfl, rfl⟩
  go_wp2
  go_ret
  exact ⟨⟨_, rfl, .inr ⟨by omega, q1, q2, q3⟩⟩, below1 _ _⟩

theorem toIntS_sl (a : Option Addr) (c : Nat) (xs : List Int) (w : World) (hl : xs.length ≤ 1048576) (h : Row w a xs) :
    Calls Try.prog 34 #[.slice a xs.length c] w fun e w' => ∃ b d, e = .returned (.slice b xs.length d) ∧ w'.ownsRow w.heap.size 3 1 (.slice b xs.length d) xs.length (ints xs) ∧ Below w.heap.size w w' := by
  refine (toIntS_any a c xs w hl h).mono ?_
  rintro e w' ⟨v, rfl, ho, hb⟩
  obtain ⟨b, d, rfl, _⟩ := Row.of_owned ho
  exact ⟨b, d, rfl, ho, hb⟩
theorem apart_of {w w' : World} {B B' : Nat} {v u : Value} {n m : Nat} {xs ys : List Value} (h : w.ownsRow B 3 1 v n xs) (h' : w'.ownsRow B' 3 1 u m ys) (hB : w.heap.size ≤ B') : ∀ g, v.ownBlock = some g → u.ownBlock ≠ some g := by
  intro g e e'
  have := (h.lt g e).2
  have := (h'.lt g e').1
  omega

theorem ownsRow_set3 {w : World} {B g : Nat} {v : Value} {n : Nat} {xs : List Value} (h : w.ownsRow B 3 1 v n xs) (hg : g < B) (u1 u2 u3 : Value) : (((w.setCell ⟨g, 0, none⟩ u1).setCell ⟨g, 1, none⟩ u2).setCell ⟨g, 2, none⟩ u3).ownsRow B 3 1 v n xs :=
  ownsRow_setCell_below (a := ⟨g, 2, none⟩) (ownsRow_setCell_below (a := ⟨g, 1, none⟩) (ownsRow_setCell_below (a := ⟨g, 0, none⟩) h hg u1) hg u2) hg u3
/-- the blocks of the laws' copy of a state while it is made -/
structure TS (w X : World) (v1 v2 v3 u1 u2 u3 : Value) : Prop where
  a : Box3 X w.heap.size v1 v2 v3
  r : Box3 X (w.heap.size + 1) (.slice none 0 0) (.slice none 0 0) (.slice none 0 0)
  o : Box3 X (w.heap.size + 1 + 1) u1 u2 u3
  fr : ∀ j, X.frozen? ⟨w.heap.size + 1, j, none⟩ = false
  fo : ∀ j, X.frozen? ⟨w.heap.size + 1 + 1, j, none⟩ = false
  b : Below w.heap.size w X
theorem TS.below {w X X' : World} {v1 v2 v3 u1 u2 u3 : Value} (h : TS w X v1 v2 v3 u1 u2 u3) (hb : Below X.heap.size X X') : TS w X' v1 v2 v3 u1 u2 u3 :=
  ⟨h.a.below hb, h.r.below hb, h.o.below hb, fun j => by rw [hb.frozen (p := ⟨w.heap.size + 1, j, none⟩) h.r.lt]; exact h.fr j, fun j => by rw [hb.frozen (p := ⟨w.heap.size + 1 + 1, j, none⟩) h.o.lt]; exact h.fo j, bstep' h.b hb⟩
theorem TS.new (w : World) (v1 v2 v3 : Value) (t1 t2 : TypeId) : TS w (((w.alloc (.cells #[v1, v2, v3] t1)).alloc (.cells #[.slice none 0 0, .slice none 0 0, .slice none 0 0] t2)).alloc (.cells #[.slice none 0 0, .slice none 0 0, .slice none 0 0] t2)) v1 v2 v3 (.slice none 0 0) (.slice none 0 0) (.slice none 0 0) := by
  have s0 := size_alloc1 w (.cells #[v1, v2, v3] t1)
  have s1 := size_alloc1 (w.alloc (.cells #[v1, v2, v3] t1)) (.cells #[.slice none 0 0, .slice none 0 0, .slice none 0 0] t2)
  rw [s0] at s1
  have b0 := Box3.new w v1 v2 v3 t1
  have b1 := Box3.new (w.alloc (.cells #[v1, v2, v3] t1)) (.slice none 0 0) (.slice none 0 0) (.slice none 0 0) t2
  have b2 := Box3.new ((w.alloc (.cells #[v1, v2, v3] t1)).alloc (.cells #[.slice none 0 0, .slice none 0 0, .slice none 0 0] t2)) (.slice none 0 0) (.slice none 0 0) (.slice none 0 0) t2
  rw [s0] at b1
  rw [s1] at b2
  refine ⟨(b0.below (below1 _ _)).below (below1 _ _), b1.below (below1 _ _), b2, fun j => ?_, fun j => ?_, below3 w _ _ _⟩
  · simp [go_sem]
  · simp [go_sem]
theorem TS.set {w X : World} {v1 v2 v3 u1 u2 u3 : Value} (h : TS w X v1 v2 v3 u1 u2 u3) (j : Nat) (u : Value) (hj : j < 3) :
    TS w (X.setCell ⟨w.heap.size + 1 + 1, j, none⟩ u) v1 v2 v3 (if j = 0 then u else u1) (if j = 1 then u else u2) (if j = 2 then u else u3) := by
  have hne : ∀ b o, b ≠ w.heap.size + 1 + 1 → (X.setCell ⟨w.heap.size + 1 + 1, j, none⟩ u).cell? ⟨b, o, none⟩ = X.cell? ⟨b, o, none⟩ := fun b o hb => World.cell?_setCell_other X _ _ _ (by intro e; cases e; exact hb rfl)
  refine ⟨⟨?_, ?_, ?_⟩, ⟨?_, ?_, ?_⟩, ⟨?_, ?_, ?_⟩, fun k => ?_, fun k => ?_, h.b.setCell (by simp; omega) _⟩
  · rw [hne _ _ (by omega)]; exact h.a.1
  · rw [hne _ _ (by omega)]; exact h.a.2.1
  · rw [hne _ _ (by omega)]; exact h.a.2.2
  · rw [hne _ _ (by omega)]; exact h.r.1
  · rw [hne _ _ (by omega)]; exact h.r.2.1
  · rw [hne _ _ (by omega)]; exact h.r.2.2
  · by_cases e : j = 0
    · subst e; rw [if_pos rfl]; exact World.cell?_setCell_same X _ _ h.o.1
    · rw [if_neg e, World.cell?_setCell_other X _ _ _ (by intro e'; cases e'; exact e rfl)]; exact h.o.1
  · by_cases e : j = 1
    · subst e; rw [if_pos rfl]; exact World.cell?_setCell_same X _ _ h.o.2.1
    · rw [if_neg e, World.cell?_setCell_other X _ _ _ (by intro e'; cases e'; exact e rfl)]; exact h.o.2.1
  · by_cases e : j = 2
    · subst e; rw [if_pos rfl]; exact World.cell?_setCell_same X _ _ h.o.2.2
    · rw [if_neg e, World.cell?_setCell_other X _ _ _ (by intro e'; cases e'; exact e rfl)]; exact h.o.2.2
  · simp [go_sem]; exact h.fr k
  · simp [go_sem]; exact h.fo k

set_option maxHeartbeats 1000000 in
/-- the laws' copy of a state -/
theorem toState_any (a1 a2 a3 : Option Addr) (c1 c2 c3 : Nat) (xs ys zs : List Int) (w : World) (hx : xs.length ≤ 1048576) (hy : ys.length ≤ 1048576) (hz : zs.length ≤ 1048576) (h : SRow w a1 a2 a3 xs ys zs) :
    Calls Try.prog 20 #[.agg #[.slice a1 xs.length c1, .slice a2 ys.length c2, .slice a3 zs.length c3]] w fun e w' => ∃ b1 b2 b3 d1 d2 d3, e = .returned (.agg #[.slice b1 xs.length d1, .slice b2 ys.length d2, .slice b3 zs.length d3]) ∧ OwnSt w' w.heap.size (.slice b1 xs.length d1) (.slice b2 ys.length d2) (.slice b3 zs.length d3) xs ys zs ∧ Below w.heap.size w w' := by
  have H := hid h
  have T := hid (TS.new w (.slice a1 xs.length c1) (.slice a2 ys.length c2) (.slice a3 zs.length c3) 39 31)
  clear h
  go_enter Try.func20, Try.ntmps20
  go_wp2_with fail
  refine (toIntS_sl a1 c1 xs _ hx (H.out.1.below T.out.b)).mono ?_
  obtain ⟨W, hW⟩ : ∃ W, ((w.alloc (.cells #[.slice a1 xs.length c1, .slice a2 ys.length c2, .slice a3 zs.length c3] 39)).alloc (.cells #[.slice none 0 0, .slice none 0 0, .slice none 0 0] 31)).alloc (.cells #[.slice none 0 0, .slice none 0 0, .slice none 0 0] 31) = W := ⟨_, rfl⟩
  have T0 := T.out
  rw [hW] at T0 ⊢
  clear hW T
  rintro e w1 ⟨b1, d1, rfl, o1, B1⟩
  have T1 := T0.below B1
  have lW := T0.o.lt
  have T2 := T1.set 0 (.slice b1 xs.length d1) (by omega)
  rw [if_pos rfl, if_neg (by omega), if_neg (by omega)] at T2
  have p1 := ownsRow_setCell_below (a := ⟨w.heap.size + 1 + 1, 0, none⟩) o1 lW (.slice b1 xs.length d1)
  have f0 := T1.fo 0
  have lw1 := T1.o.lt
  obtain ⟨x0, x1, x2⟩ := T1.o
  obtain ⟨y0, y1, y2⟩ := T1.a
  have HT := hid T2
  have HP := hid p1
  clear T0 T1 T2 p1 o1 B1
  go_wp2_with fail
  refine (toIntS_sl a2 c2 ys _ hy (H.out.2.1.below HT.out.b)).mono ?_
  rintro e w2 ⟨b2, d2, rfl, o2, B2⟩
  have T3 := HT.out.below B2
  have T4 := T3.set 1 (.slice b2 ys.length d2) (by omega)
  rw [if_neg (by omega), if_pos rfl, if_neg (by omega)] at T4
  have q1 := ownsRow_below HP.out B2
  have q12 := apart_of HP.out o2 (Nat.le_refl _)
  have lw1' := HT.out.o.lt
  have p1 := ownsRow_setCell_below (a := ⟨w.heap.size + 1 + 1, 1, none⟩) q1 lW (.slice b2 ys.length d2)
  have p2 := ownsRow_setCell_below (a := ⟨w.heap.size + 1 + 1, 1, none⟩) o2 lw1' (.slice b2 ys.length d2)
  have f1 := T3.fo 1
  have lw2 := T3.o.lt
  clear x0 x1 x2 y0 y1 y2 f0
  obtain ⟨x0, x1, x2⟩ := T3.o
  obtain ⟨y0, y1, y2⟩ := T3.a
  have HT2 := hid T4
  have HP2 := hid (And.intro p1 (And.intro p2 q12))
  clear T3 T4 p1 p2 q1 q12 o2 B2 HT HP
  go_wp2_with fail
  refine (toIntS_sl a3 c3 zs _ hz (H.out.2.2.below HT2.out.b)).mono ?_
  rintro e w3 ⟨b3, d3, rfl, o3, B3⟩
  have T5 := HT2.out.below B3
  have T6 := T5.set 2 (.slice b3 zs.length d3) (by omega)
  rw [if_neg (by omega), if_neg (by omega), if_pos rfl] at T6
  have q1 := ownsRow_below HP2.out.1 B3
  have q2 := ownsRow_below HP2.out.2.1 B3
  have q13 := apart_of HP2.out.1 o3 (Nat.le_refl _)
  have q23 := apart_of HP2.out.2.1 o3 (Nat.le_refl _)
  have lw2' := HT2.out.o.lt
  have p1 := ownsRow_setCell_below (a := ⟨w.heap.size + 1 + 1, 2, none⟩) q1 lW (.slice b3 zs.length d3)
  have p2 := ownsRow_setCell_below (a := ⟨w.heap.size + 1 + 1, 2, none⟩) q2 lw1' (.slice b3 zs.length d3)
  have p3 := ownsRow_setCell_below (a := ⟨w.heap.size + 1 + 1, 2, none⟩) o3 lw2' (.slice b3 zs.length d3)
  have f2 := T5.fo 2
  have lw3 := T5.o.lt
  clear x0 x1 x2 y0 y1 y2 f1
  obtain ⟨x0, x1, x2⟩ := T5.o
  obtain ⟨r0, r1, r2⟩ := T5.r
  have g0 := T5.fr 0
  have g1 := T5.fr 1
  have g2 := T5.fr 2
  have lr := T5.r.lt
  have HF := hid (And.intro T6 (And.intro p1 (And.intro p2 (And.intro p3 (And.intro HP2.out.2.2 (And.intro q13 q23))))))
  clear T5 T6 p1 p2 p3 q1 q2 q13 q23 o3 B3 HT2 HP2
  go_wp2
  refine bodyPost_ret (v := .agg #[.slice b1 xs.length d1, .slice b2 ys.length d2, .slice b3 zs.length d3]) (by simp [results, Try.results20, go_sem, *]) rfl ⟨b1, b2, b3, d1, d2, d3, rfl, ?_, ?_⟩
  · obtain ⟨T6, p1, p2, p3, n12, n13, n23⟩ := HF.out
    have hlo : w.heap.size + 1 < W.heap.size := by omega
    exact ⟨owns_mono (ownsRow_set3 p1 hlo _ _ _) (by omega), owns_mono (ownsRow_set3 p2 (by have := hlo; simp at lw1' ⊢; omega) _ _ _) (by simp; omega), owns_mono (ownsRow_set3 p3 (by simp at lw2' ⊢; omega) _ _ _) (by simp; omega), n12, n13, n23⟩
  · exact (((HF.out.1.b.setCell (p := ⟨w.heap.size + 1, 0, none⟩) (by simp) _).setCell (p := ⟨w.heap.size + 1, 1, none⟩) (by simp) _).setCell (p := ⟨w.heap.size + 1, 2, none⟩) (by simp) _)
end Go.Proofs.Ytjgedckjkhoflaa
