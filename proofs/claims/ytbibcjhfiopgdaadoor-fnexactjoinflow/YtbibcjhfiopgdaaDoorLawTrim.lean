/- The law on TrimFlow is true at every flow. -/
import Derived.Test.YtbibcjhfiopgdaaDoorTrimL
import Derived.Test.YtbibcjhfiopgdaaDoorLawPreds
namespace Go.Proofs.YtbibcjhfiopgdaaDoor
open Go.RowKit
set_option linter.unusedVariables false
set_option linter.unusedSimpArgs false
set_option maxRecDepth 100000

theorem TrimO.below {w w' : World} {B : Nat} {v : Value} {na : Option Addr} {nc : Nat} {zs : List BV} {N : List Int} (h : TrimO w B v na nc zs N) (hb : Below w.heap.size w w') : TrimO w' B v na nc zs N := Sep.below h hb
theorem TrimO.brow {w : World} {B : Nat} {v : Value} {na : Option Addr} {nc : Nat} {zs : List BV} {N : List Int} {T : List Blk} (h : TrimO w B v na nc zs N) (hz : blks zs = T) : ∃ a c, v = .slice a T.length c ∧ BRow w a T := by
  obtain ⟨a, c, e, r⟩ := (OwnQ.plain h).row
  rw [hz] at e r
  exact ⟨a, c, e, r⟩
theorem TrimO.brow' {w : World} {B n c : Nat} {a : Option Addr} {na : Option Addr} {nc : Nat} {zs : List BV} {N : List Int} {T : List Blk} (h : TrimO w B (.slice a n c) na nc zs N) (hz : blks zs = T) : BRow w a T := by
  obtain ⟨a', c', e, r⟩ := h.brow hz
  injection e with e1 _ _
  rw [e1]; exact r
theorem TrimO.nrow {w : World} {B : Nat} {v : Value} {na : Option Addr} {nc : Nat} {zs : List BV} {N : List Int} (h : TrimO w B v na nc zs N) : Row w na N := own_row (h.1 ⟨3, 1, .slice na N.length nc, N.length, ints N⟩ (by simp))
theorem Sep.keptG {w w' : World} {B : Nat} {r : Option Nat} {l : List OR} (h : Sep w B l) (hg : w.grownBy w' r) (hne : ∀ x ∈ l, ∀ k, x.v.ownBlock = some k → ¬ r = some k) : Sep w' B l := by
  refine ⟨fun x hx => World.ownsRow.kept (h.1 x hx) hg ?_, h.2⟩
  cases e : x.v.ownBlock with
  | none => exact .inl rfl
  | some k => exact .inr (fun he => hne x hx k e he.symm)
set_option maxHeartbeats 4000000 in
theorem lawTrimFlow (a : Option Addr) (c : Nat) (xs : List Blk) (w : World) (hl : xs.length ≤ 9223372036854775807) (h : BRow w a xs) (hT : Tab w) :
    Calls Tryd.prog 6 #[.slice a xs.length c] w fun e w' => e = .returned (.bool true) ∧ Below w.heap.size w w' := by
  obtain ⟨G, hG⟩ : ∃ G, goodFlow xs = G := ⟨_, rfl⟩
  obtain ⟨T, N, hys, hT64, hTs, hN64⟩ := exists_trimY xs
  have hsp := fun w a c (hl : xs.length ≤ 1048576) hs h => sTrimFlow_any a c xs T N w hl hs h hys
  have hip := fun w a c (hl : xs.length ≤ 1048576) hs h hT => iTrimFlow_any a c xs T N w hl hs h hT hys
  rw [hG] at hsp hip
  have HSP := hid hsp
  have HIP := hid hip
  have HTS := hid hTs
  have hmb := mkAll_bound T
  obtain ⟨M, hM, hM0, hM1⟩ : ∃ M : Int, 1 + mkAll T = M ∧ 0 ≤ M ∧ M ≤ 1000000 := ⟨_, rfl, by omega, by omega⟩
  have HM := hid hM
  clear hsp hip hys hG hTs hmb hM
  have HT := hid (fun W (hb : Below w.heap.size w W) => hT.below hb)
  have HR := hid h
  clear hT h
  cases G
  all_goals
    go_enter Tryd.func6, Tryd.ntmps6
    go_wp2_with fail
    refine (szBlocks_any a c xs _ hl HR.out).mono ?_
    rintro e w1 ⟨⟨r, rfl, hr1, hr⟩, B1⟩
    by_cases hr0 : r < 0
    · go_wp2
      go_ret
      exact ⟨rfl, B1⟩
    · have hl20 : xs.length ≤ 1048576 := by omega
      have hst : sumB xs ≤ 1048576 := by omega
      have HS := hid hst
      clear hr hst
      go_wp2_with fail
      refine (toBlocks_any a c xs _ hl20 HS.out (HR.out.below B1)).mono ?_
      rintro e w2 ⟨v2, y2, rfl, O2, hy2, hb2⟩
      obtain ⟨a2, c2, rfl, hs2⟩ := O2.row
      rw [hy2] at hs2 ⊢
      have B2 := bstep' B1 hb2
      clear O2 hy2 hb2
      go_wp2_with fail
      refine (HSP.out _ a2 c2 hl20 HS.out hs2).mono ?_
      rintro e w3 ⟨⟨v3, n3, k3, z3, rfl, O3, hz3⟩, hb3⟩
      have B3 := bstep' B2 hb3
      obtain ⟨a3, c3, rfl, r3⟩ := O3.brow hz3
      have HZ3 := hid hz3
      clear hs2 hb3 r3 hz3
      go_wp2_with fail
      refine (toBlocks_any a c xs _ hl20 HS.out (HR.out.below B3)).mono ?_
      rintro e w4 ⟨v4, y4, rfl, O4, hy4, hb4⟩
      have B4 := bstep' B3 hb4
      have HB34 := hid (And.intro hb4.size B3.size)
      have HC4 := hid O4.in'
      have HL3 := hid (Sep.lt O3)
      have O3 := O3.below hb4
      obtain ⟨a4, c4, hv4, hs4⟩ := O4.row
      subst hv4
      rw [hy4] at hs4 HC4 O4 ⊢
      have HY4 := hid hy4
      clear hy4 hb4
      go_wp2_with fail
      refine (HIP.out _ a4 c4 hl20 HS.out hs4 (HT.out _ B4)).mono ?_
      rintro e w5 ⟨⟨v5, n5, k5, z5, rfl, O5, hz5⟩, hb5⟩
      have B5 := bstep' B4 hb5
      have O3 := O3.below hb5
      have O4 := O4.below hb5
      have hs4 := hs4.below hb5
      obtain ⟨a5, c5, rfl, r5⟩ := O5.brow hz5
      have HZ5 := hid hz5
      have HL5 := hid (Sep.ge O5)
      have r3 := O3.brow' HZ3.out
      clear hb5 hz5
      go_wp2_with fail
      refine (eqBlocks_same a5 a3 c5 c3 T _ (by omega) r5 r3).mono ?_
      rintro e w6 ⟨rfl, hb6⟩
      have B6 := bstep' B5 hb6
      have O3 := O3.below hb6
      have O4 := O4.below hb6
      have O5 := O5.below hb6
      have hs4 := hs4.below hb6
      have m3 := O3.nrow
      have m5 := O5.nrow
      clear r3 r5 hb6
      go_wp2_with fail
      refine (eqIntS_same n5 n3 k5 k3 N _ (by omega) m5 m3).mono ?_
      rintro e w6b ⟨rfl, q6, hw6⟩
      have hb6b : Below w6.heap.size w6 w6b := by rw [hw6]; exact below_drewN (Below.refl _ _) _
      have B6b := bstep' B6 hb6b
      have O3 := O3.below hb6b
      have O4 := O4.below hb6b
      have O5 := O5.below hb6b
      have hs4 := hs4.below hb6b
      clear m3 m5 hw6 hb6b
      go_wp2_with fail
      refine (toBlocks_any a c xs _ hl20 HS.out (HR.out.below B6b)).mono ?_
      rintro e w7 ⟨v7, y7, rfl, O7, hy7, hb7⟩
      obtain ⟨a7, c7, rfl, hs7⟩ := O7.row
      rw [hy7] at hs7 ⊢
      have B7 := bstep' B6b hb7
      have O3 := O3.below hb7
      have O4 := O4.below hb7
      have O5 := O5.below hb7
      have hs4 := hs4.below hb7
      clear O7 hy7 hb7
      go_wp2_with fail
      refine (eqBlocks_same a4 a7 c4 c7 xs _ hl hs4 hs7).mono ?_
      rintro e w8 ⟨rfl, hb8⟩
      have B8 := bstep' B7 hb8
      have O3 := O3.below hb8
      have O4 := O4.below hb8
      have O5 := O5.below hb8
      clear hb8 hs4 hs7
      go_wp2_with fail
      refine (markBlocks_any w3.heap.size w4.heap.size _ y4 _ O4 (by have := congrArg List.length HY4.out; rw [blks_length] at this; omega) (by rw [HY4.out]; exact HS.out) HC4.out).mono ?_
      rintro e w9 ⟨rfl, y9, O9, hy9, hc9, hn9, t9⟩
      have B9 : Below w.heap.size w w9 := t9.below B8 HB34.out.2
      have O3 : TrimO _ _ _ _ _ _ _ := Sep.touch O3 t9 (fun x hx k hk => .inl (HL3.out x hx k hk))
      have O5 : TrimO _ _ _ _ _ _ _ := Sep.touch O5 t9 (fun x hx k hk => .inr (HL5.out x hx k hk))
      have hk9 : ¬ (1 + mkAll (blks y4)) < 0 := by have := (mkAll_bound (blks y4)).1; omega
      generalize (1 + mkAll (blks y4)) = K9 at hk9 ⊢
      clear O4 O9 hy9 t9 hc9 hn9
      have r5 := O5.brow' HZ5.out
      have r3 := O3.brow' HZ3.out
      go_wp2_with fail
      refine (eqBlocks_same a5 a3 c5 c3 T _ (by omega) r5 r3).mono ?_
      rintro e w10 ⟨rfl, hb10⟩
      have B10 := bstep' B9 hb10
      have O3 := O3.below hb10
      have O5 := O5.below hb10
      have m3 := O3.nrow
      have m5 := O5.nrow
      clear r3 r5 hb10
      go_wp2_with fail
      refine (eqIntS_same n5 n3 k5 k3 N _ (by omega) m5 m3).mono ?_
      rintro e w10b ⟨rfl, q10, hw10⟩
      have hb10b : Below w10.heap.size w10 w10b := by rw [hw10]; exact below_drewN (Below.refl _ _) _
      have B10b := bstep' B10 hb10b
      have O3 := O3.below hb10b
      have O5 := O5.below hb10b
      clear m3 m5 hw10 hb10b
      have hn5 : z5.length = T.length := by have := congrArg List.length HZ5.out; rw [blks_length] at this; exact this
      go_wp2_with fail
      refine (markBlocksR_any w4.heap.size w10b.heap.size _ z5 _ _ O5 (by omega) (by rw [HZ5.out]; have := HTS.out; omega) (OwnQ.plain O5).in').mono ?_
      rintro e w11 ⟨rfl, z11, O11, hz11, hc11, hn11, t11⟩
      have B11 : Below w.heap.size w w11 := t11.below B10b (Nat.le_trans HB34.out.2 HB34.out.1)
      have O3 : TrimO _ _ _ _ _ _ _ := Sep.touch O3 t11 (fun x hx k hk => .inl (by have := HL3.out x hx k hk; have := HB34.out.1; omega))
      rw [HZ5.out, HM.out]
      have HZ11 : Hid (blks z11 = markBl 1 T) := by show _ = _; rw [hz11, HZ5.out]
      have ho11 : w11.ownsRow w4.heap.size 3 1 (.slice n5 N.length k5) N.length (ints N) := O11.1 ⟨3, 1, .slice n5 N.length k5, N.length, ints N⟩ (by simp)
      clear O5 hz11 hc11 hn11 t11 hn5
      go_wp2_with fail
      refine (markI_any w4.heap.size _ N M _ hM0 (by omega) (by omega) ho11).mono ?_
      rintro e w12 ⟨rfl, ho12, hg12⟩
      have O12 := Sep.turn (rowsB (.slice a5 T.length c5) z11) O11 (Below.refl _ _) hg12 ⟨3, 1, .slice n5 N.length k5, N.length, ints (marks M N.length)⟩ ho12 (fun k hk => .inl hk)
      have B12 : Below w.heap.size w w12 := B11.grown hg12 B11.size (fun k hk => by have h1 := (ho11.lt k hk).1; have h2 := HB34.out; omega)
      have O3 : TrimO w12 _ _ _ _ _ _ := Sep.keptG O3 hg12 (fun x hx k hk e => by have h1 := HL3.out x hx k hk; have h2 := (ho11.lt k e).1; have h3 := HB34.out; omega)
      have rb : BRow w12 a5 (markBl 1 T) := by
        obtain ⟨a', c', e, r⟩ := (OwnQ.plain (R := [⟨3, 1, .slice n5 N.length k5, N.length, ints (marks M N.length)⟩]) O12).row
        injection e with e1 _ _
        rw [e1, ← HZ11.out]; exact r
      have rn : Row w12 n5 (marks M N.length) := by
        have h2 : w12.ownsRow w4.heap.size 3 1 (.slice n5 (marks M N.length).length k5) (marks M N.length).length (ints (marks M N.length)) := by rw [marks_length]; exact ho12
        exact own_row h2
      clear O11 ho11 ho12 hg12 O12
      have HRB := hid (And.intro rb rn)
      clear rb rn
      have hMN : M + (N.length : Int) ≤ 1000064 := by omega
      go_wp2_with fail
      refine (heldBlocks_any a5 c5 T _ (by omega) (by have := HTS.out; omega) HRB.out.1).mono ?_
      rintro e w13 ⟨rfl, hw13⟩
      subst w13
      rw [HM.out]
      go_wp2_with fail
      refine (heldI_any n5 k5 N.length M _ hM0 (by omega) (by omega) HRB.out.2).mono ?_
      rintro e w14 ⟨rfl, hw14⟩
      subst w14
      go_wp2_with fail
      refine (toBlocks_any a c xs _ hl20 HS.out (HR.out.below B12)).mono ?_
      rintro e w15 ⟨v15, y15, rfl, O15, hy15, hb15⟩
      obtain ⟨a15, c15, rfl, hs15⟩ := O15.row
      rw [hy15] at hs15 ⊢
      have B15 := bstep' B12 hb15
      have O3 := O3.below hb15
      have HRB := hid (And.intro (HRB.out.1.below hb15) (HRB.out.2.below hb15))
      clear O15 hy15 hb15
      go_wp2_with fail
      refine (HIP.out _ a15 c15 hl20 HS.out hs15 (HT.out _ B15)).mono ?_
      rintro e w16 ⟨⟨v16, n16, k16, z16, rfl, O16, hz16⟩, hb16⟩
      have B16 := bstep' B15 hb16
      have O3 := O3.below hb16
      have HRB := hid (And.intro (HRB.out.1.below hb16) (HRB.out.2.below hb16))
      obtain ⟨a16, c16, rfl, r16⟩ := O16.brow hz16
      have r3 := O3.brow' HZ3.out
      clear hb16 hs15 hz16
      go_wp2_with fail
      refine (eqBlocks_same a16 a3 c16 c3 T _ (by omega) r16 r3).mono ?_
      rintro e w17 ⟨rfl, hb17⟩
      have B17 := bstep' B16 hb17
      have O3 := O3.below hb17
      have O16 := O16.below hb17
      have HRB := hid (And.intro (HRB.out.1.below hb17) (HRB.out.2.below hb17))
      have m3 := O3.nrow
      have m5 := O16.nrow
      clear hb17 r16 r3
      go_wp2_with fail
      refine (eqIntS_same n16 n3 k16 k3 N _ (by omega) m5 m3).mono ?_
      rintro e w18 ⟨rfl, q18, hw18⟩
      have hb18 : Below w17.heap.size w17 w18 := by rw [hw18]; exact below_drewN (Below.refl _ _) _
      have B18 := bstep' B17 hb18
      have HRB := hid (And.intro (HRB.out.1.below hb18) (HRB.out.2.below hb18))
      clear hw18 hb18 m3 m5
      go_wp2_with fail
      refine (heldBlocks_any a5 c5 T _ (by omega) (by have := HTS.out; omega) HRB.out.1).mono ?_
      rintro e w19 ⟨rfl, hw19⟩
      subst w19
      rw [HM.out]
      go_wp2_with fail
      refine (heldI_any n5 k5 N.length M _ hM0 (by omega) (by omega) HRB.out.2).mono ?_
      rintro e w20 ⟨rfl, hw20⟩
      subst w20
      go_wp2
      go_ret
      exact ⟨rfl, B18⟩
end Go.Proofs.YtbibcjhfiopgdaaDoor
