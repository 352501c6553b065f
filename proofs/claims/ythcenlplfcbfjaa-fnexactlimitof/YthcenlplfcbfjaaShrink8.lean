/- One node goes, or none can. -/
import Derived.Test.YthcenlplfcbfjaaShrMath8
namespace Go.Proofs.Ythcenlplfcbfjaa
open Go Go.RowKit Go.Shelf
attribute [local go_sem] Oper.semAt_some
set_option linter.unusedVariables false
set_option linter.unusedSimpArgs false
set_option maxRecDepth 100000

theorem Shr.aside {w : World} {B tb pb n c : Nat} {nv : Value} {ns : List Nat} {ys : List LV} {N : List (List Nat)} (h : Shr w B tb pb n c nv ns ys N) {b : Nat} {v : Value} (hb : Boxed w b 4 v) (u : Value) : Shr (w.setCell ⟨b, 0, none⟩ u) B tb pb n c nv ns ys N := by
  refine ⟨(Only.setCell w b 0 u).sep h.sep (fun x hx k hk e => ?_), h.lst, h.isN, h.rise, h.lt⟩
  subst e
  obtain ⟨c', fz, hc⟩ := own_kind (h.sep.1 x hx) hk
  have hb' : w.heap[k]? = _ := hb
  rw [hb'] at hc
  have hx4 : x.e = 4 := by injection (Option.some.inj hc) with _ h _; exact h.symm
  unfold rowsShr at hx
  rcases List.mem_cons.1 hx with rfl | hx
  · cases hx4
  · rcases List.mem_cons.1 hx with rfl | hx
    · cases hx4
    · rcases List.mem_cons.1 hx with rfl | hx
      · cases hx4
      · obtain ⟨y, _, rfl⟩ := List.mem_map.1 hx
        cases hx4
/-- what is told of one round -/
def ShrinkAns (e : Ending) (w w' : World) (B tb pb n c : Nat) (nv : Value) (ns : List Nat) (N : List (List Nat)) : Prop :=
  ((e = .returned (.bool true) ∧ ∃ nv' ns' ys' N' k p, Shr w' B tb pb n c nv' ns' ys' N' ∧ (lst ns N).Can k p ∧ lst ns' N' = (lst ns N).merge k p ∧ ns'.length + 1 = ns.length ∧ EndsN ns' N') ∨
   (e = .returned (.bool false) ∧ ∃ ys' N', Shr w' B tb pb n c nv ns ys' N' ∧ (lst ns N).End)) ∧ Below B w w'
set_option maxHeartbeats 4000000 in
theorem shrink_any (B tb pb n c : Nat) (nv : Value) (ns : List Nat) (ys : List LV) (N : List (List Nat)) (w : World) (hn : n ≤ 12) (hB : B ≤ w.heap.size) (h : Shr w B tb pb n c nv ns ys N) (he : EndsN ns N) :
    Calls Try.prog 47 #[.pointer (some ⟨tb, 0, none⟩)] w fun e w' => ShrinkAns e w w' B tb pb n c nv ns N := by
  obtain ⟨c0, c1, hc2, ht, hp⟩ := h.cells
  have hnl := h.nfew
  have b2 := below2 w (.cells #[.pointer (some ⟨tb, 0, none⟩)] 100) (.cells #[.bool false] 4)
  have z2 : ((w.alloc (.cells #[.pointer (some ⟨tb, 0, none⟩)] 100)).alloc (.cells #[.bool false] 4)).heap.size = w.heap.size + 2 := by simp
  have x0 := ((Boxed.new w 100 (.pointer (some ⟨tb, 0, none⟩))).alloc (.cells #[.bool false] 4))
  have x1 := (Boxed.new (w.alloc (.cells #[.pointer (some ⟨tb, 0, none⟩)] 100)) 4 (.bool false))
  simp only [World.size_alloc] at x1
  have HD := hid (dropSelf_any B tb pb n c nv ns ys N w.heap.size _ hn (Nat.le_trans hB b2.size) (h.below b2) hp.2 (fun y hy b hb => (h.inner hy hb).2))
  have H := hid h
  clear h hc2
  refine (callsIn_wide (n := 8)).1 ?_
  refine callsIn_of_wp_marks Try.func47 rfl trivial (wpIn_wide.2 (wp_mono ?_ calm_le)) rfl
  simp only [Try.ntmps47, List.size_toArray, List.length_cons, List.length_nil, Nat.reduceAdd, Nat.reduceSub, Array.replicate_succ, Array.replicate_zero, List.push_toArray, List.append_toArray, List.nil_append, List.cons_append]
  go_wp2_with fail
  refine HD.out.mono ?_
  rintro e Z1 ⟨rfl, ys1, N1, h1, hsl, hb1, hin1, hbox⟩
  have y0 : Boxed Z1 w.heap.size 100 (.pointer (some ⟨tb, 0, none⟩)) := (hbox _ (Nat.le_refl _) (by rw [z2]; omega)).trans x0
  have y1 : Boxed Z1 (w.heap.size + 1) 4 (.bool false) := (hbox _ (by omega) (by rw [z2]; omega)).trans x1
  have zz : w.heap.size + 2 ≤ Z1.heap.size := by have := hb1.size; omega
  have B1 : Below B w Z1 := (b2.mono hB).trans hb1
  obtain ⟨e0, e1, ⟨na, nc, rfl, hrow⟩, ht1, hp1⟩ := h1.cells
  have q0 := y0.cell
  have hrise := h1.rise
  have HS := hid (And.intro h1 (And.intro hsl (And.intro hrow B1)))
  have HIN := hid hin1
  have HNB : Hid (∀ b, (Value.slice na ns.length nc).ownBlock = some b → b < w.heap.size) := fun b hb => (H.out.nblock hb).2
  have hnb : ∀ b off, na = some ⟨b, off, none⟩ → b < Z1.heap.size := fun b off e => (h1.nblock (b := b) (by rw [e]; rfl)).2
  clear h1 hsl hin1 hb1 hbox x0 x1 b2 z2 hrow B1 HD
  go_wp2_with (go_at_call 67; refine (all_any _ _ _ _).mono ?_; rintro e w' ⟨rfl, rfl⟩)
  refine (wpIn_wide (n := 8)).1 ?_
  obtain ⟨W0, hW0⟩ : ∃ W0, ((Z1.alloc (Obj.cells #[Value.slice na ns.length nc] 54)).alloc (Obj.cells #[Value.slice na ns.length nc] 42)) = W0 := ⟨_, rfl⟩
  have zW : W0.heap.size = Z1.heap.size + 2 := by rw [← hW0]; simp
  have bW : Below Z1.heap.size Z1 W0 := by rw [← hW0]; exact below2 _ _ _
  have xg : W0.cell? ⟨Z1.heap.size + 1, 0, none⟩ = some (.slice na ns.length nc) := by
    rw [← hW0]
    have := Boxed.new (Z1.alloc (Obj.cells #[Value.slice na ns.length nc] 54)) 42 (.slice na ns.length nc)
    simp only [World.size_alloc] at this
    exact this.cell
  rw [hW0]
  clear hW0
  refine range_own2 rfl (by omega) (gf := 109) (lb := #[.pointer (some ⟨Z1.heap.size + 1, 0, none⟩)]) rfl trivial (enters_of Try.func109 (by kernel_rfl) rfl)
    (values_own2 (fun x : Nat => (x : Int)) _ (by omega) (Z1.heap.size + 1) na nc ns (by omega) (fun j => j < Z1.heap.size) (fun b off e => hnb b off e) W0 (HS.out.2.2.1.below bW) (by omega) xg) (fun j hj => by omega) (Below.refl _ _) (fun _ => rfl)
    (fun T pre V => Below Z1.heap.size Z1 V ∧ (∀ x ∈ pre, x = 0 ∨ onlyP (leadsTo N1 x ns) = -1) ∧ T ≤ V.heap.size ∧ W0.heap.size ≤ T)
    (fun cd pre V => cd = .ret ∧ Boxed V (w.heap.size + 1) 4 (.bool true) ∧ Below B w V ∧ ∃ nv' ns' ys' N' k p, Shr V B tb pb n c nv' ns' ys' N' ∧ (lst ns N).Can k p ∧ lst ns' N' = (lst ns N).merge k p ∧ ns'.length + 1 = ns.length ∧ EndsN ns' N')
    (fun T s A A' row hs hg hr => ⟨hs.1.grown hg hs.1.size (fun k e => by have := (hr _ e).1; omega), hs.2.1, Nat.le_trans hs.2.2.1 hg.size, hs.2.2.2⟩)
    (fun cd s A A' row hs hg hr => by
      obtain ⟨h1, h2, h3, nv', ns', ys', N', k, p, h4, h5⟩ := hs
      exact ⟨h1, h2.kept hg (fun e => by have := (hr _ e.symm).1; omega), h3.grown hg (Nat.le_trans hB h3.size) (fun k e => by have := (hr _ e).1; omega), nv', ns', ys', N', k, p, ⟨Sep.calm h4.sep hg (fun r e => (hr r e).2), h4.lst, h4.isN, h4.rise, h4.lt⟩, h5⟩)
    (fun W' hg => ⟨bW.grown hg bW.size (fun k e => by cases e), by simp, Nat.le_refl _, hg.size⟩)
    (fun x => { tmps := #[Value.pointer (some { block := tb, off := 0 }), Value.pointer (some { block := w.heap.size, off := 0 }), Value.pointer (some { block := w.heap.size + 1, off := 0 }), .int .i64 (x : Int), undef, Value.pointer (some { block := tb, off := 0 }), Value.tuple #[], Value.pointer (some { block := tb, off := 0 }), Value.pointer (some { block := tb, off := 0 }), Value.pointer (some { block := tb, off := 0 }), Value.agg #[Value.slice na ns.length nc], Value.func (Fn.func 109) #[] #[Value.pointer (some { block := Z1.heap.size + 1, off := 0 })], .int .i64 (x : Int), undef, undef, undef, undef, undef, undef, undef, undef, undef, undef, undef], defers := [] }) ?assign ?body ?done ?stop
  case assign =>
    intro l x W K hK
    gi_wp2
    exact hK
  case body =>
    rintro l T pre x V hT ⟨h1, h2, h3, h4⟩ hlen hSp
    have hxm : x ∈ ns := hSp.subset (by simp)
    have hV := HS.out.1.below h1
    have hzV := h1.size
    have v0 := (boxed_below y0 h1)
    have v1 := (boxed_below y1 h1)
    have c0' := v0.cell
    have c1' := v1.cell
    have f1' := v1.frozen
    have HO := hid (onlyLeader_any B tb pb n c _ ns ys1 N1 x V hn (by omega) hV)
    have KEEP : Hid (∀ Z, Below V.heap.size V Z → KeepsOthers V Z ∧ Stay (fun j => j < Z1.heap.size) W0.heap.size T V Z) := fun Z hZ => ⟨keeps_below hZ, ⟨hZ.mono (Nat.zero_le _), fun k hk => hZ.block k (by omega)⟩⟩
    have HV := hid (And.intro hV (And.intro v0 (And.intro v1 (And.intro hxm h2))))
    clear hV v0 v1 hSp h2
    by_cases hx0 : x = 0
    · subst hx0
      gi_wp2
      exact ⟨(KEEP.out V (Below.refl _ _)).1, (KEEP.out V (Below.refl _ _)).2, h1, fun y hy => by
        rcases List.mem_append.1 hy with hy | hy
        · exact HV.out.2.2.2.2 y hy
        · simp at hy; exact .inl hy, h3, h4⟩
    · have hx1 : ¬ (x : Int) = 0 := by omega
      obtain ⟨u, hu⟩ : ∃ u, onlyP (leadsTo N1 x ns) = u := ⟨_, rfl⟩
      rw [hu] at HO
      have HU := hid hu
      clear hu
      by_cases hu1 : u = -1
      · subst hu1
        gi_wp2_with (refine ⟨trivial, ?_⟩; gi_at_call 83; refine (CallsIn.inRound l (callsIn_wide.2 HO.out)).mono ?_; rintro e Z ⟨rfl, hZ⟩)
        exact ⟨(KEEP.out Z hZ).1, (KEEP.out Z hZ).2, h1.trans (hZ.mono hzV), fun y hy => by
          rcases List.mem_append.1 hy with hy | hy
          · exact HV.out.2.2.2.2 y hy
          · simp at hy; rw [hy]; exact .inr HU.out, Nat.le_trans h3 hZ.size, h4⟩
      · obtain ⟨p, hup⟩ : ∃ p : Nat, u = p := by
          match hL : leadsTo N1 x ns with
          | [] => have := HU.out; rw [hL] at this; exact absurd this.symm hu1
          | [q] => have := HU.out; rw [hL] at this; exact ⟨q, this.symm⟩
          | _ :: _ :: _ => have := HU.out; rw [hL] at this; exact absurd this.symm hu1
        subst hup
        have hLp := onlyP_nat HU.out
        have hns := HS.out.2.1.noSelf
        obtain ⟨hcan, hpm, hxp⟩ := can_of hns HV.out.2.2.2.1 hx0 hLp
        have hxn : x < n := HS.out.1.lt x HV.out.2.2.2.1
        have hpn : p < n := HS.out.1.lt p hpm
        obtain ⟨rx, _, hrx, _⟩ := HS.out.1.at hxn
        obtain ⟨rp, _, hrp, _⟩ := HS.out.1.at hpn
        have HT : Hid (∀ Z, Below V.heap.size V Z → Calls Try.prog 84 #[.pointer (some ⟨tb, 0, none⟩), .int .i64 (x : Int), .int .i64 (p : Int)] Z fun e w' => e = .returned (.tuple #[]) ∧ ∃ nv' ys', Shr w' B tb pb n c nv' (dropN ns x) ys' (N1.set p (addAll (dropN rp x) rx)) ∧ Below B Z w' ∧ KeepsOthers Z w' ∧ ∀ j, w.heap.size ≤ j → j < Z.heap.size → w'.heap[j]? = Z.heap[j]?) := fun Z hZ => takeUp_any w.heap.size B tb pb n c _ ns ys1 N1 x p rx rp Z hn (by have := hZ.size; omega) (HV.out.1.below hZ) hxp hrx hrp ⟨ht.2, hp.2, HNB.out, HIN.out⟩
        have HPURE : Hid ((lst ns N).Can x p ∧ lst (dropN ns x) (N1.set p (addAll (dropN rp x) rx)) = (lst ns N).merge x p ∧ (dropN ns x).length + 1 = ns.length ∧ EndsN (dropN ns x) (N1.set p (addAll (dropN rp x) rx))) := by
          have hpl : p < N1.length := (List.getElem?_eq_some_iff.1 hrp).1
          have e1 : ∀ y, y ∈ (N1.set p (addAll (dropN rp x) rx)).getD p [] ↔ ((y ∈ N1.getD p [] ∧ y ≠ x) ∨ y ∈ N1.getD x []) := fun y => by
            rw [getD_set_self hpl, addAll_mem, mem_dropN, getD_some hrp, getD_some hrx]
          have e2 : ∀ a, a ≠ p → (N1.set p (addAll (dropN rp x) rx)).getD a [] = N1.getD a [] := fun a ha => getD_set_ne (fun e => ha e.symm)
          have el := HS.out.2.1.lst
          refine ⟨by rw [← el]; exact hcan, by rw [← el]; exact merge_is hns hcan (fun y => mem_dropN) (fun y _ => e1 y) e2, dropN_count hrise HV.out.2.2.2.1, ends_merge (HS.out.2.1.ends he) hns hcan (fun y => mem_dropN) (fun y hy => (e1 y).1 hy) e2⟩
        have HB1 := hid (HS.out.2.2.2.trans (h1.mono (by omega)))
        clear hcan hpm hns hLp hrx hrp hxn hpn
        gi_wp2_with fail
        refine ⟨trivial, ?_⟩
        gi_at_call 83
        refine (CallsIn.inRound l (callsIn_wide.2 HO.out)).mono ?_
        rintro e Z ⟨rfl, hZ⟩
        have g0 := (boxed_below HV.out.2.1 hZ).cell
        have HT2 := hid (HT.out Z hZ)
        gi_wp2_with fail
        refine ⟨trivial, ?_⟩
        gi_at_call 84
        refine (CallsIn.inRound l (callsIn_wide.2 HT2.out)).mono ?_
        rintro e Z2 ⟨rfl, nv', ys', k1, k2, k3, k4⟩
        have hZs := hZ.size
        have g2 : Boxed Z2 (w.heap.size + 1) 4 (.bool false) := (k4 (w.heap.size + 1) (by omega) (by omega)).trans (boxed_below HV.out.2.2.1 hZ)
        have g3 := g2.cell
        have g4 := g2.frozen
        have HFIN : Hid (KeepsOthers V (Z2.setCell ⟨w.heap.size + 1, 0, none⟩ (.bool true)) ∧ Boxed (Z2.setCell ⟨w.heap.size + 1, 0, none⟩ (.bool true)) (w.heap.size + 1) 4 (.bool true) ∧ Below B w (Z2.setCell ⟨w.heap.size + 1, 0, none⟩ (.bool true)) ∧ Shr (Z2.setCell ⟨w.heap.size + 1, 0, none⟩ (.bool true)) B tb pb n c nv' (dropN ns x) ys' (N1.set p (addAll (dropN rp x) rx))) := ⟨((keeps_below hZ).trans k3).trans (KeepsOthers.setCell _ _ _), g2.set _, ((HB1.out.trans (hZ.mono (by omega))).trans k2).setCell (by show B ≤ w.heap.size + 1; omega) _, k1.aside g2 _⟩
        clear k1 k2 k3 k4 hZ g2 HT2 g0
        gi_wp2
        exact ⟨HFIN.out.1, rfl, HFIN.out.2.1, HFIN.out.2.2.1, nv', _, ys', _, x, p, HFIN.out.2.2.2, HPURE.out⟩
  case done =>
    rintro Dd T xs V hDd rfl ⟨h1, h2, h3, h4⟩ hK
    have v1 := (boxed_below y1 h1)
    have c1' := v1.cell
    have f1' := v1.frozen
    have hzV := h1.size
    have hK' : (V.setCell ⟨w.heap.size + 1, 0, none⟩ (.bool false)).heap[Dd]? = some (.deferred (some [])) := (KeepsOthers.setCell _ _ _).same Dd _ hK rfl
    have q4 := (v1.set (.bool false)).cell
    have hS2 := (HS.out.1.below h1).aside v1 (.bool false)
    have qB := (HS.out.2.2.2.trans (h1.mono (by omega))).setCell (p := ⟨w.heap.size + 1, 0, none⟩) (by show B ≤ w.heap.size + 1; omega) (.bool false)
    have HE : Hid ((lst xs N).End) := by rw [← HS.out.2.1.lst]; exact onlyP_end HS.out.2.1.noSelf (rising_nodup hrise) h2
    go_wp2
    refine ⟨by simp, .inl ⟨_, _, rfl, run_takeDeferred hK', ?_⟩⟩
    have q5 := cell_kept q4 (grownBy_putObj' _ Dd (.deferred none)) (fun r e => by cases e; exact ⟨_, hK', rfl⟩)
    exact ⟨.bool false, by simp [results, Try.results47, go_sem, q5], .inr ⟨rfl, ys1, N1, ⟨Sep.calm hS2.sep (grownBy_putObj' _ Dd _) (fun r e => by cases e; exact ⟨_, hK', rfl⟩), hS2.lst, hS2.isN, hS2.rise, hS2.lt⟩, HE.out⟩, qB.trans ((belowK_b (w := w) (Nat.le_refl _) _ Dd _ _ (by omega) hK' rfl rfl).mono hB)⟩
  case stop =>
    rintro Dd cd pre V hDd hpre ⟨rfl, hb, h2, nv', ns', ys', N', k, p, h4, h5⟩ hK
    have q4 := hb.cell
    gi_wp2
    refine ⟨by simp, .inl ⟨_, _, rfl, run_takeDeferred hK, ?_⟩⟩
    have q5 := cell_kept q4 (grownBy_putObj' _ Dd (.deferred none)) (fun r e => by cases e; exact ⟨_, hK, rfl⟩)
    exact ⟨.bool true, by simp [results, Try.results47, go_sem, q5], .inl ⟨rfl, nv', ns', ys', N', k, p, ⟨Sep.calm h4.sep (grownBy_putObj' _ Dd _) (fun r e => by cases e; exact ⟨_, hK, rfl⟩), h4.lst, h4.isN, h4.rise, h4.lt⟩, h5⟩, h2.trans ((belowK_b (w := w) (Nat.le_refl _) _ Dd _ _ (by omega) hK rfl rfl).mono hB)⟩
end Go.Proofs.Ythcenlplfcbfjaa
