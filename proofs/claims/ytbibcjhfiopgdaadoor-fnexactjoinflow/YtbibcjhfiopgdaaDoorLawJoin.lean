/- The law on JoinFlow is true at every flow. -/
import Derived.Test.YtbibcjhfiopgdaaDoorJoinM
import Derived.Test.YtbibcjhfiopgdaaDoorLawTrim
namespace Go.Proofs.YtbibcjhfiopgdaaDoor
open Go.RowKit
set_option linter.unusedVariables false
set_option linter.unusedSimpArgs false
set_option maxRecDepth 100000

theorem sJoinFlow_any (a : Option Addr) (c : Nat) (f T : List Blk) (w : World) (hl : f.length ≤ 1048576) (h : BRow w a f) (hy : JoinY f T) :
    Calls Tryd.prog 30 #[.slice a f.length c] w fun e w' => (∃ v zs, e = .returned (.tuple #[v, .bool (goodFlow f)]) ∧ OwnB w' w.heap.size v zs ∧ blks zs = T) ∧ Below w.heap.size w w' := by
  have H := hid h
  have HY := hid hy
  clear h hy
  cases hg : goodFlow f with
  | false =>
    have HE := hid (HY.out.2 hg)
    have HG := hid (sGoodF_any a c f w (by omega) H.out)
    rw [hg] at HG
    clear hg
    go_enter Tryd.func30, Tryd.ntmps30
    go_wp2_with fail
    refine HG.out.mono ?_
    rintro e w1 ⟨rfl, hb1⟩
    go_wp2
    go_ret2
    have := HE.out
    subst this
    refine ⟨⟨_, [], rfl, ?_, rfl⟩, hb1⟩
    refine ⟨fun x hx => ?_, by simp [rowsB]⟩
    simp only [rowsB, List.flatMap_nil, List.mem_cons, List.not_mem_nil, or_false] at hx
    subst hx
    exact World.ownsRow_nil _ _ _ _
  | true =>
    have HE := hid (HY.out.1 hg)
    have HGD := hid hg
    have HG := hid (sGoodF_any a c f w (by omega) H.out)
    rw [hg] at HG
    clear hg
    go_enter Tryd.func30, Tryd.ntmps30
    go_wp2_with fail
    refine HG.out.mono ?_
    rintro e w1 ⟨rfl, hb1⟩
    go_wp2_with fail
    refine (sJoin_any a c f _ HGD.out (H.out.below hb1)).mono ?_
    rintro e w2 ⟨v, zs, gg, l, rfl, ho, hj, hl2, hz, hb2⟩
    have HR := hid (And.intro ho (And.intro hj (And.intro hl2 hz)))
    have HB := hid (And.intro hb1.size (bstep' hb1 hb2))
    clear ho hj hl2 hz hb1 hb2
    go_wp2
    go_ret2
    obtain ⟨g', l', hj', hl', rfl⟩ := HE.out
    obtain ⟨ho, hj, hl2, hz⟩ := HR.out
    obtain rfl := hj'.unique hj
    obtain rfl := hl'.unique hl2
    exact ⟨⟨_, zs, rfl, Sep.mono ho HB.out.1, hz⟩, HB.out.2⟩
theorem OwnB.brow {w : World} {B : Nat} {v : Value} {zs : List BV} {T : List Blk} (h : OwnB w B v zs) (hz : blks zs = T) : ∃ a c, v = .slice a T.length c ∧ BRow w a T := by
  obtain ⟨a, c, e, r⟩ := h.row
  rw [hz] at e r
  exact ⟨a, c, e, r⟩
theorem OwnB.brow' {w : World} {B n c : Nat} {a : Option Addr} {zs : List BV} {T : List Blk} (h : OwnB w B (.slice a n c) zs) (hz : blks zs = T) : BRow w a T := by
  obtain ⟨a', c', e, r⟩ := h.brow hz
  injection e with e1 _ _
  rw [e1]; exact r
set_option maxHeartbeats 4000000 in
theorem lawJoinFlow (a : Option Addr) (c : Nat) (xs : List Blk) (w : World) (hl : xs.length ≤ 9223372036854775807) (h : BRow w a xs) (hT : Tab w) :
    Calls Tryd.prog 7 #[.slice a xs.length c] w fun e w' => e = .returned (.bool true) ∧ Below w.heap.size w w' := by
  obtain ⟨G, hG⟩ : ∃ G, goodFlow xs = G := ⟨_, rfl⟩
  obtain ⟨T, hys, hT64, hTs⟩ := exists_joinY xs
  have hsp := fun w a c (hl : xs.length ≤ 1048576) h => sJoinFlow_any a c xs T w hl h hys
  have hip := fun w a c (hl : xs.length ≤ 1048576) h hT => iJoinFlow_any a c xs T w hl h hT hys
  rw [hG] at hsp hip
  have HSP := hid hsp
  have HIP := hid hip
  have HTS := hid hTs
  have hmb := mkAll_bound T
  obtain ⟨M, hM, hM0, hM1⟩ : ∃ M : Int, 1 + mkAll T = M ∧ 0 ≤ M ∧ M ≤ 1000000 := ⟨_, rfl, by omega, by omega⟩
  have HM := hid hM
  clear hsp hip hys hG hTs hmb hM
  have HT := hid (fun W (hb : Below w.heap.size w W) => hT.below hb)
  have HR := hid h
  clear hT h
  cases G
  all_goals
    go_enter Tryd.func7, Tryd.ntmps7
    go_wp2_with fail
    refine (szBlocks_any a c xs _ hl HR.out).mono ?_
    rintro e w1 ⟨⟨r, rfl, hr1, hr⟩, B1⟩
    by_cases hr0 : r < 0
    · go_wp2
      go_ret
      exact ⟨rfl, B1⟩
    · have hl20 : xs.length ≤ 1048576 := by omega
      have hst : sumB xs ≤ 1048576 := by omega
      have HS := hid hst
      clear hr hst
      go_wp2_with fail
      refine (toBlocks_any a c xs _ hl20 HS.out (HR.out.below B1)).mono ?_
      rintro e w2 ⟨v2, y2, rfl, O2, hy2, hb2⟩
      obtain ⟨a2, c2, rfl, hs2⟩ := O2.row
      rw [hy2] at hs2 ⊢
      have B2 := bstep' B1 hb2
      clear O2 hy2 hb2
      go_wp2_with fail
      refine (HSP.out _ a2 c2 hl20 hs2).mono ?_
      rintro e w3 ⟨⟨v3, z3, rfl, O3, hz3⟩, hb3⟩
      have B3 := bstep' B2 hb3
      obtain ⟨a3, c3, rfl, r3⟩ := O3.brow hz3
      have HZ3 := hid hz3
      clear hs2 hb3 r3 hz3
      go_wp2_with fail
      refine (toBlocks_any a c xs _ hl20 HS.out (HR.out.below B3)).mono ?_
      rintro e w4 ⟨v4, y4, rfl, O4, hy4, hb4⟩
      have B4 := bstep' B3 hb4
      have HB34 := hid (And.intro hb4.size B3.size)
      have HC4 := hid O4.in'
      have HL3 := hid (Sep.lt O3)
      have O3 := O3.below hb4
      obtain ⟨a4, c4, hv4, hs4⟩ := O4.row
      subst hv4
      rw [hy4] at hs4 HC4 O4 ⊢
      have HY4 := hid hy4
      clear hy4 hb4
      go_wp2_with fail
      refine (HIP.out _ a4 c4 hl20 hs4 (HT.out _ B4)).mono ?_
      rintro e w5 ⟨⟨v5, z5, rfl, O5, hz5⟩, hb5⟩
      have B5 := bstep' B4 hb5
      have O3 := O3.below hb5
      have O4 := O4.below hb5
      have hs4 := hs4.below hb5
      obtain ⟨a5, c5, rfl, r5⟩ := O5.brow hz5
      have HZ5 := hid hz5
      have HL5 := hid (Sep.ge O5)
      have r3 := O3.brow' HZ3.out
      clear hb5 hz5
      go_wp2_with fail
      refine (eqBlocks_same a5 a3 c5 c3 T _ (by omega) r5 r3).mono ?_
      rintro e w6 ⟨rfl, hb6⟩
      have B6 := bstep' B5 hb6
      have O3 := O3.below hb6
      have O4 := O4.below hb6
      have O5 := O5.below hb6
      have hs4 := hs4.below hb6
      clear r3 r5 hb6
      go_wp2_with fail
      refine (toBlocks_any a c xs _ hl20 HS.out (HR.out.below B6)).mono ?_
      rintro e w7 ⟨v7, y7, rfl, O7, hy7, hb7⟩
      obtain ⟨a7, c7, rfl, hs7⟩ := O7.row
      rw [hy7] at hs7 ⊢
      have B7 := bstep' B6 hb7
      have O3 := O3.below hb7
      have O4 := O4.below hb7
      have O5 := O5.below hb7
      have hs4 := hs4.below hb7
      clear O7 hy7 hb7
      go_wp2_with fail
      refine (eqBlocks_same a4 a7 c4 c7 xs _ hl hs4 hs7).mono ?_
      rintro e w8 ⟨rfl, hb8⟩
      have B8 := bstep' B7 hb8
      have O3 := O3.below hb8
      have O4 := O4.below hb8
      have O5 := O5.below hb8
      clear hb8 hs4 hs7
      go_wp2_with fail
      refine (markBlocks_any w3.heap.size w4.heap.size _ y4 _ O4 (by have := congrArg List.length HY4.out; rw [blks_length] at this; omega) (by rw [HY4.out]; exact HS.out) HC4.out).mono ?_
      rintro e w9 ⟨rfl, y9, O9, hy9, hc9, hn9, t9⟩
      have B9 : Below w.heap.size w w9 := t9.below B8 HB34.out.2
      have O3 : OwnB _ _ _ _ := Sep.touch O3 t9 (fun x hx k hk => .inl (HL3.out x hx k hk))
      have O5 : OwnB _ _ _ _ := Sep.touch O5 t9 (fun x hx k hk => .inr (HL5.out x hx k hk))
      have hk9 : ¬ (1 + mkAll (blks y4)) < 0 := by have := (mkAll_bound (blks y4)).1; omega
      generalize (1 + mkAll (blks y4)) = K9 at hk9 ⊢
      clear O4 O9 hy9 t9 hc9 hn9
      have r5 := O5.brow' HZ5.out
      have r3 := O3.brow' HZ3.out
      go_wp2_with fail
      refine (eqBlocks_same a5 a3 c5 c3 T _ (by omega) r5 r3).mono ?_
      rintro e w10 ⟨rfl, hb10⟩
      have B10 := bstep' B9 hb10
      have O3 := O3.below hb10
      have O5 := O5.below hb10
      clear r3 r5 hb10
      have hn5 : z5.length = T.length := by have := congrArg List.length HZ5.out; rw [blks_length] at this; exact this
      go_wp2_with fail
      refine (markBlocks_any w4.heap.size w10.heap.size _ z5 _ O5 (by omega) (by rw [HZ5.out]; have := HTS.out; omega) O5.in').mono ?_
      rintro e w11 ⟨rfl, z11, O11, hz11, hc11, hn11, t11⟩
      have B11 : Below w.heap.size w w11 := t11.below B10 (Nat.le_trans HB34.out.2 HB34.out.1)
      have O3 : OwnB _ _ _ _ := Sep.touch O3 t11 (fun x hx k hk => .inl (by have := HL3.out x hx k hk; have := HB34.out.1; omega))
      rw [HZ5.out, HM.out]
      have HZ11 : Hid (blks z11 = markBl 1 T) := by show _ = _; rw [hz11, HZ5.out]
      have rb := O11.brow' HZ11.out
      have HRB := hid rb
      clear O5 O11 hz11 hc11 hn11 t11 hn5 rb
      go_wp2_with fail
      refine (heldBlocks_any a5 c5 T _ (by omega) (by have := HTS.out; omega) HRB.out).mono ?_
      rintro e w13 ⟨rfl, hw13⟩
      subst w13
      rw [HM.out]
      go_wp2_with fail
      refine (toBlocks_any a c xs _ hl20 HS.out (HR.out.below B11)).mono ?_
      rintro e w15 ⟨v15, y15, rfl, O15, hy15, hb15⟩
      obtain ⟨a15, c15, rfl, hs15⟩ := O15.row
      rw [hy15] at hs15 ⊢
      have B15 := bstep' B11 hb15
      have O3 := O3.below hb15
      have HRB := hid (HRB.out.below hb15)
      clear O15 hy15 hb15
      go_wp2_with fail
      refine (HIP.out _ a15 c15 hl20 hs15 (HT.out _ B15)).mono ?_
      rintro e w16 ⟨⟨v16, z16, rfl, O16, hz16⟩, hb16⟩
      have B16 := bstep' B15 hb16
      have O3 := O3.below hb16
      have HRB := hid (HRB.out.below hb16)
      obtain ⟨a16, c16, rfl, r16⟩ := O16.brow hz16
      have r3 := O3.brow' HZ3.out
      clear hb16 hs15 hz16
      go_wp2_with fail
      refine (eqBlocks_same a16 a3 c16 c3 T _ (by omega) r16 r3).mono ?_
      rintro e w17 ⟨rfl, hb17⟩
      have B17 := bstep' B16 hb17
      have HRB := hid (HRB.out.below hb17)
      clear hb17 r16 r3
      go_wp2_with fail
      refine (heldBlocks_any a5 c5 T _ (by omega) (by have := HTS.out; omega) HRB.out).mono ?_
      rintro e w19 ⟨rfl, hw19⟩
      subst w19
      rw [HM.out]
      go_wp2
      go_ret
      exact ⟨rfl, B17⟩
end Go.Proofs.YtbibcjhfiopgdaaDoor
