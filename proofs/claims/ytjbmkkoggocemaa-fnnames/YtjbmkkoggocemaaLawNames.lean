/- The law on names is true at every two lists of bytes. -/
import Derived.Test.YtjbmkkoggocemaaSame
import Derived.Test.YtjbmkkoggocemaaNamesMath
import Derived.Test.YtjbmkkoggocemaaName2
namespace Go.Proofs.Ytjbmkkoggocemaa
open Go.RowKit
set_option linter.unusedVariables false
set_option linter.unusedSimpArgs false
set_option maxRecDepth 100000

theorem name_size {i : Int} {s t : ByteArray} (h : nameI i s = some t) (hs : s.size ≤ 9223372036854775807) : t.size ≤ 9223372036854775807 := by
  unfold nameI at h
  by_cases h0 : i = 0 ∧ s.size ≤ 200
  · rw [if_pos h0] at h
    cases hr : resU s 0 with
    | none => rw [nameP_no hr] at h; cases h
    | some ne =>
      obtain ⟨n, e⟩ := ne
      by_cases hl : n ≤ (s.size : Int) - e
      · cases hu : utf (s.extract e (e + n.toNat)) with
        | false => rw [nameP_bad hr hl hu] at h; cases h
        | true =>
          rw [nameP_yes hr hl hu] at h
          injection h with h
          rw [← h, ByteArray.size_extract]; omega
      · rw [nameP_long hr hl] at h; cases h
  · rw [if_neg h0] at h; cases h

set_option maxHeartbeats 8000000 in
theorem lawNames_go (a0 a1 : Option Addr) (z0 z1 : List Int) (c0 c1 : Nat) (w : World) (h0 : Code w a0 z0) (h1 : Code w a1 z1) (hg : ¬ 1048576 < wrap64 ((z0.length : Int) + z1.length)) :
    Calls Try.prog 3 #[.slice a0 z0.length c0, .slice a1 z1.length c1] w fun e w' => e = .returned (.bool true) ∧ Below w.heap.size w w' := by
  have hl0 := h0.1
  have hl1 := h1.1
  have HC : Hid (∀ W, Below w.heap.size w W → Code W a0 z0 ∧ Code W a1 z1) := fun W hb => ⟨h0.later hb, h1.later hb⟩
  clear h0 h1
  go_enter Try.func3, Try.ntmps3
  go_wp2_with fail
  refine (drawDrop_any a0 z0 c0 _ (HC.out _ (Below.refl _ _)).1).mono ?_
  rintro e w1 ⟨v, xs, rfl, hxl, hxs, ho, B1⟩
  obtain ⟨a, c, rfl, r1⟩ := SRow.of_owned ho (fun x hx => by have := hxs x hx; omega)
  have hdx : ∀ x ∈ dropP xs, x.2.size ≤ 9223372036854775807 := fun x hx => by
    unfold dropP at hx
    split at hx
    · have := hxs x (List.mem_filter.1 hx).1; omega
    · cases hx
  have HDL : Hid ((dropP xs).length ≤ 5) := by
    show _ ≤ _
    unfold dropP
    split
    · have := dropC_len xs; omega
    · simp
  have HDX : Hid (∀ x ∈ dropP xs, x.2.size ≤ 9223372036854775807) := hdx
  have HAT : Hid (goodB xs = true → dropP xs = dropC xs ∧ ∀ id, 1 ≤ id → atP (dropC xs) id = atP xs id) := fun hg => ⟨by unfold dropP; rw [hg]; rfl, fun id h1 => at_drop hg id h1⟩
  have hip := fun w h => iDrop_any a c xs w (by omega) h
  have hsp := fun w h => sDrop_any a c xs w (by omega) h
  obtain ⟨G, hG⟩ : ∃ G, goodB xs = G := ⟨_, rfl⟩
  obtain ⟨D, hD⟩ : ∃ D, dropP xs = D := ⟨_, rfl⟩
  rw [hG, hD] at hip hsp
  rw [hD] at HDL HDX
  have HIP : Hid (∀ w, SRow w a xs → Calls Try.prog 13 #[.slice a xs.length c] w fun e w' => ∃ v, e = .returned (.tuple #[v, .bool G]) ∧ w'.ownsRow w.heap.size 31 2 v D.length (flat D) ∧ Below w.heap.size w w') := hip
  have HSP : Hid (∀ w, SRow w a xs → Calls Try.prog 14 #[.slice a xs.length c] w fun e w' => ∃ v, e = .returned (.tuple #[v, .bool G]) ∧ w'.ownsRow w.heap.size 31 2 v D.length (flat D) ∧ Below w.heap.size w w') := hsp
  have HGD : Hid (goodB xs = G ∧ dropP xs = D) := ⟨hG, hD⟩
  clear hip hsp hG hD hdx ho hxs
  cases G
  all_goals
    go_wp2_with fail
    refine (HIP.out _ r1).mono ?_
    rintro e w2 ⟨v2, rfl, o2, hb2⟩
    have B2 := bstep' B1 hb2
    have r1 := r1.below hb2
    obtain ⟨a2, d2, rfl, r2⟩ := SRow.of_owned o2 HDX.out
    clear o2 hb2 B1
    go_wp2_with fail
    refine (HSP.out _ r1).mono ?_
    rintro e w3 ⟨v3, rfl, o3, hb3⟩
    have B3 := bstep' B2 hb3
    have r1 := r1.below hb3
    have r2 := r2.below hb3
    obtain ⟨a3, d3, rfl, r3⟩ := SRow.of_owned o3 HDX.out
    clear o3 hb3 B2
    go_wp2_with fail
    refine (sameSecs_same a2 a3 d2 d3 D _ (by have := HDL.out; omega) r2 r3).mono ?_
    rintro e w4 ⟨rfl, q, hw4⟩
    have B4 : Below w.heap.size w w4 := by rw [hw4]; exact below_drewN B3 q
    have hb4 : Below w3.heap.size w3 w4 := by rw [hw4]; exact below_drewN (Below.refl _ _) q
    have r1 := r1.below hb4
    have r2 := r2.below hb4
    clear hw4 B3 r3 HIP HSP hb4
  · clear HAT HGD r1 r2
    go_wp2_with fail
    refine (drawName_any a1 z1 c1 _ (HC.out _ B4).2).mono ?_
    rintro e w5 ⟨i, s, rfl, hs, hb5⟩
    have B5 := bstep' B4 hb5
    have B5' := bstep' B5 (below1 w5 (.cells #[.int .i64 i, .string s] 31))
    obtain ⟨nm, hnm⟩ : ∃ nm, nameI i s = nm := ⟨_, rfl⟩
    have HNM : Hid (nameI i s = nm) := hnm
    clear hnm hb5 B4
    go_wp2_with fail
    refine (iNameOf_any i s _ (by omega)).mono ?_
    rintro e w6 ⟨rfl, hb6⟩
    rw [HNM.out]
    obtain ⟨hc6, hf6⟩ := (⟨fun b o h => hb6.cell (p := ⟨b, o, none⟩) h, trivial⟩ : (∀ b o, b < (w5.alloc (.cells #[.int .i64 i, .string s] 31)).heap.size → w6.cell? ⟨b, o, none⟩ = (w5.alloc (.cells #[.int .i64 i, .string s] 31)).cell? ⟨b, o, none⟩) ∧ True)
    have m0 : w6.cell? ⟨w5.heap.size, 0, none⟩ = some (.int .i64 i) := by rw [hc6 _ _ (by simp)]; simp [go_sem]
    have m1 : w6.cell? ⟨w5.heap.size, 1, none⟩ = some (.string s) := by rw [hc6 _ _ (by simp)]; simp [go_sem]
    have B6 := bstep' B5' hb6
    clear hc6 hf6 hb6 B5 B5'
    cases nm with
    | none =>
      simp only [nameV]
      go_wp2_with fail
      refine (sNameOf_any i s _ (by omega)).mono ?_
      rintro e w7 ⟨rfl, hb7⟩
      rw [HNM.out]
      simp only [nameV]
      have B8 := bstep' B6 hb7
      clear B6 hb7 m0 m1 HNM
      go_wp2_with fail
      refine (drawUtf_any a0 z0 c0 _ (HC.out _ B8).1).mono ?_
      rintro e w9 ⟨sa, rfl, hsa, hb9⟩
      have B9 := bstep' B8 hb9
      clear B8 hb9
      go_wp2_with fail
      refine (drawUtf_any a1 z1 c1 _ (HC.out _ B9).2).mono ?_
      rintro e w10 ⟨sb, rfl, hsb, hb10⟩
      have B10 := bstep' B9 hb10
      have HUA : Hid (utf sa = true → utf (sa ++ sb) = utf sb) := utf_append sa sb
      have hia := fun w => iUtf_any sa w (by omega)
      have hib := fun w => iUtf_any sb w (by omega)
      have hma := fun w => sUtf_any sa w (by omega)
      have hmb := fun w => sUtf_any sb w (by omega)
      have hab := fun w => iUtf_any (sa ++ sb) w (by rw [ByteArray.size_append]; omega)
      generalize utf sa = ua at hia hma HUA
      cases ua with
      | false =>
        generalize utf sb = ub at hib hmb
        clear B9 hb10 HUA hab
        go_wp2_with fail
        refine (hia _).mono ?_
        rintro e w11 ⟨rfl, hb11⟩
        have B11 := bstep' B10 hb11
        clear B10 hb11
        go_wp2_with fail
        refine (hib _).mono ?_
        rintro e w12 ⟨rfl, hb12⟩
        have B12 := bstep' B11 hb12
        clear B11 hb12
        cases ub
        all_goals
          go_wp2_with fail
          refine (hma _).mono ?_
          rintro e w' ⟨rfl, hw'⟩
          subst w'
          go_wp2_with fail
          refine (hmb _).mono ?_
          rintro e w' ⟨rfl, hw'⟩
          subst w'
          go_wp2
          go_ret
          exact ⟨rfl, B12⟩
      | true =>
        rw [HUA.out rfl] at hab
        generalize utf sb = ub at hib hmb hab
        clear B9 hb10 HUA
        go_wp2_with fail
        refine (hia _).mono ?_
        rintro e w11 ⟨rfl, hb11⟩
        have B11 := bstep' B10 hb11
        clear B10 hb11
        go_wp2_with fail
        refine (hib _).mono ?_
        rintro e w12 ⟨rfl, hb12⟩
        have B12 := bstep' B11 hb12
        clear B11 hb12
        cases ub
        all_goals
          go_wp2_with fail
          refine (hma _).mono ?_
          rintro e w' ⟨rfl, hw'⟩
          subst w'
          go_wp2_with fail
          refine (hmb _).mono ?_
          rintro e w' ⟨rfl, hw'⟩
          subst w'
          go_wp2_with fail
          refine (hab _).mono ?_
          rintro e w13 ⟨rfl, hb13⟩
          go_wp2
          go_ret
          exact ⟨rfl, bstep' B12 hb13⟩
    | some nt =>
      have hut := name_utf HNM.out
      have hnl : nt.size ≤ 9223372036854775807 := name_size HNM.out (by omega)
      simp only [nameV]
      go_wp2_with fail
      refine (sNameOf_any i s _ (by omega)).mono ?_
      rintro e w7 ⟨rfl, hb7⟩
      rw [HNM.out]
      simp only [nameV]
      have B7 := bstep' B6 hb7
      have hu := fun w => iUtf_any nt w hnl
      rw [hut] at hu
      clear B6 hb7 m0 m1 HNM hut
      go_wp2_with fail
      refine (hu _).mono ?_
      rintro e w7b ⟨rfl, hb7b⟩
      have B8 := bstep' B7 hb7b
      clear B7 hb7b hu
      go_wp2_with fail
      refine (drawUtf_any a0 z0 c0 _ (HC.out _ B8).1).mono ?_
      rintro e w9 ⟨sa, rfl, hsa, hb9⟩
      have B9 := bstep' B8 hb9
      clear B8 hb9
      go_wp2_with fail
      refine (drawUtf_any a1 z1 c1 _ (HC.out _ B9).2).mono ?_
      rintro e w10 ⟨sb, rfl, hsb, hb10⟩
      have B10 := bstep' B9 hb10
      have HUA : Hid (utf sa = true → utf (sa ++ sb) = utf sb) := utf_append sa sb
      have hia := fun w => iUtf_any sa w (by omega)
      have hib := fun w => iUtf_any sb w (by omega)
      have hma := fun w => sUtf_any sa w (by omega)
      have hmb := fun w => sUtf_any sb w (by omega)
      have hab := fun w => iUtf_any (sa ++ sb) w (by rw [ByteArray.size_append]; omega)
      generalize utf sa = ua at hia hma HUA
      cases ua with
      | false =>
        generalize utf sb = ub at hib hmb
        clear B9 hb10 HUA hab
        go_wp2_with fail
        refine (hia _).mono ?_
        rintro e w11 ⟨rfl, hb11⟩
        have B11 := bstep' B10 hb11
        clear B10 hb11
        go_wp2_with fail
        refine (hib _).mono ?_
        rintro e w12 ⟨rfl, hb12⟩
        have B12 := bstep' B11 hb12
        clear B11 hb12
        cases ub
        all_goals
          go_wp2_with fail
          refine (hma _).mono ?_
          rintro e w' ⟨rfl, hw'⟩
          subst w'
          go_wp2_with fail
          refine (hmb _).mono ?_
          rintro e w' ⟨rfl, hw'⟩
          subst w'
          go_wp2
          go_ret
          exact ⟨rfl, B12⟩
      | true =>
        rw [HUA.out rfl] at hab
        generalize utf sb = ub at hib hmb hab
        clear B9 hb10 HUA
        go_wp2_with fail
        refine (hia _).mono ?_
        rintro e w11 ⟨rfl, hb11⟩
        have B11 := bstep' B10 hb11
        clear B10 hb11
        go_wp2_with fail
        refine (hib _).mono ?_
        rintro e w12 ⟨rfl, hb12⟩
        have B12 := bstep' B11 hb12
        clear B11 hb12
        cases ub
        all_goals
          go_wp2_with fail
          refine (hma _).mono ?_
          rintro e w' ⟨rfl, hw'⟩
          subst w'
          go_wp2_with fail
          refine (hmb _).mono ?_
          rintro e w' ⟨rfl, hw'⟩
          subst w'
          go_wp2_with fail
          refine (hab _).mono ?_
          rintro e w13 ⟨rfl, hb13⟩
          go_wp2
          go_ret
          exact ⟨rfl, bstep' B12 hb13⟩
  · obtain ⟨hd, hat⟩ := HAT.out HGD.out.1
    have hDD : D = dropC xs := by rw [← HGD.out.2]; exact hd
    have HAT2 : Hid (∀ id : Int, 1 ≤ id → atP D id = atP xs id) := fun id h1 => by rw [hDD]; exact hat id h1
    have HID : Hid (∀ (k : Nat) (x : Sec), D[k]? = some x → x.1 ≠ 0) := fun k x hx => by rw [hDD] at hx; exact drop_ids hx
    have HR : Hid (SRow w4 a xs ∧ SRow w4 a2 D) := ⟨r1, r2⟩
    have B40 := B4
    clear HAT HGD r1 r2 hd hat hDD
    go_wp2
    go_loopw [10] (fun t10 wr => ∃ k : Nat, t10 = .int .i64 k ∧ 1 ≤ k ∧ k ≤ 12 ∧ Below w4.heap.size w4 wr) (fun t10 _ => 12 - (intOf t10).toNat)
    case atStart => exact ⟨1, rfl, by omega, by omega, Below.refl _ _⟩
    case round =>
      obtain ⟨k, rfl, hk1, hk2, hBr⟩ := hrel
      by_cases hk : k < 12
      · have hal := iAt_any a c xs (k : Int) wr (by omega) (HR.out.1.below hBr)
        obtain ⟨an, han⟩ : ∃ an, atP xs (k : Int) = an := ⟨_, rfl⟩
        rw [han] at hal
        have HAD : Hid (∀ W, Below wr.heap.size wr W → Calls Try.prog 16 #[.slice a2 D.length d2, .int .i64 k] W fun e w' => e = .returned (nameV an) ∧ Below W.heap.size W w') := fun W hb => by
          have := iAt_any a2 d2 D (k : Int) W (by have := HDL.out; omega) (HR.out.2.below (bstep' hBr hb))
          rw [HAT2.out k (by omega), han] at this
          exact this
        have HAL : Hid (Calls Try.prog 16 #[.slice a xs.length c, .int .i64 k] wr fun e w' => e = .returned (nameV an) ∧ Below wr.heap.size wr w') := hal
        clear hal han
        cases an
        all_goals
          simp only [nameV] at HAD HAL
          go_wp2_with fail
          refine HAL.out.mono ?_
          rintro e w5 ⟨rfl, hb5⟩
          go_wp2_with fail
          refine (HAD.out _ hb5).mono ?_
          rintro e w6 ⟨rfl, hb6⟩
          have B6 := bstep' hBr (bstep' hb5 hb6)
          clear hb5 hb6
          go_wp2
          go_roundw
          case rel => exact ⟨k + 1, by go_num, by omega, by omega, B6⟩
          case measure => simp [intOf]; omega
      · obtain rfl : k = 12 := by omega
        have B4 := bstep' B40 hBr
        have r2 := HR.out.2.below hBr
        have hDL := HDL.out
        clear HR HAT2 hBr B40
        obtain ⟨wo, hwo⟩ : ∃ wo, wo = wr := ⟨_, rfl⟩
        subst hwo
        by_cases hx : D = []
        · clear r2 HID
          have hD0 : D.length = 0 := by rw [hx]; rfl
          go_wp2
          go_loopw [80] (fun t80 wr => t80 = .int .i64 0 ∧ wr = wo) (fun _ _ => 0)
          case atStart => exact ⟨rfl, rfl⟩
          case round =>
            obtain ⟨rfl, hw'⟩ := hrel
            subst hw'
            go_wp2_with fail
            refine (drawName_any a1 z1 c1 _ (HC.out _ B4).2).mono ?_
            rintro e w5 ⟨i, s, rfl, hs, hb5⟩
            have B5 := bstep' B4 hb5
            have B5' := bstep' B5 (below1 w5 (.cells #[.int .i64 i, .string s] 31))
            obtain ⟨nm, hnm⟩ : ∃ nm, nameI i s = nm := ⟨_, rfl⟩
            have HNM : Hid (nameI i s = nm) := hnm
            clear hnm hb5 B4
            go_wp2_with fail
            refine (iNameOf_any i s _ (by omega)).mono ?_
            rintro e w6 ⟨rfl, hb6⟩
            rw [HNM.out]
            obtain ⟨hc6, hf6⟩ := (⟨fun b o h => hb6.cell (p := ⟨b, o, none⟩) h, trivial⟩ : (∀ b o, b < (w5.alloc (.cells #[.int .i64 i, .string s] 31)).heap.size → w6.cell? ⟨b, o, none⟩ = (w5.alloc (.cells #[.int .i64 i, .string s] 31)).cell? ⟨b, o, none⟩) ∧ True)
            have m0 : w6.cell? ⟨w5.heap.size, 0, none⟩ = some (.int .i64 i) := by rw [hc6 _ _ (by simp)]; simp [go_sem]
            have m1 : w6.cell? ⟨w5.heap.size, 1, none⟩ = some (.string s) := by rw [hc6 _ _ (by simp)]; simp [go_sem]
            have B6 := bstep' B5' hb6
            clear hc6 hf6 hb6 B5 B5'
            cases nm with
            | none =>
              simp only [nameV]
              go_wp2_with fail
              refine (sNameOf_any i s _ (by omega)).mono ?_
              rintro e w7 ⟨rfl, hb7⟩
              rw [HNM.out]
              simp only [nameV]
              have B8 := bstep' B6 hb7
              clear B6 hb7 m0 m1 HNM
              go_wp2_with fail
              refine (drawUtf_any a0 z0 c0 _ (HC.out _ B8).1).mono ?_
              rintro e w9 ⟨sa, rfl, hsa, hb9⟩
              have B9 := bstep' B8 hb9
              clear B8 hb9
              go_wp2_with fail
              refine (drawUtf_any a1 z1 c1 _ (HC.out _ B9).2).mono ?_
              rintro e w10 ⟨sb, rfl, hsb, hb10⟩
              have B10 := bstep' B9 hb10
              have HUA : Hid (utf sa = true → utf (sa ++ sb) = utf sb) := utf_append sa sb
              have hia := fun w => iUtf_any sa w (by omega)
              have hib := fun w => iUtf_any sb w (by omega)
              have hma := fun w => sUtf_any sa w (by omega)
              have hmb := fun w => sUtf_any sb w (by omega)
              have hab := fun w => iUtf_any (sa ++ sb) w (by rw [ByteArray.size_append]; omega)
              generalize utf sa = ua at hia hma HUA
              cases ua with
              | false =>
                generalize utf sb = ub at hib hmb
                clear B9 hb10 HUA hab
                go_wp2_with fail
                refine (hia _).mono ?_
                rintro e w11 ⟨rfl, hb11⟩
                have B11 := bstep' B10 hb11
                clear B10 hb11
                go_wp2_with fail
                refine (hib _).mono ?_
                rintro e w12 ⟨rfl, hb12⟩
                have B12 := bstep' B11 hb12
                clear B11 hb12
                cases ub
                all_goals
                  go_wp2_with fail
                  refine (hma _).mono ?_
                  rintro e w' ⟨rfl, hw'⟩
                  subst w'
                  go_wp2_with fail
                  refine (hmb _).mono ?_
                  rintro e w' ⟨rfl, hw'⟩
                  subst w'
                  go_wp2
                  go_ret
                  exact ⟨rfl, B12⟩
              | true =>
                rw [HUA.out rfl] at hab
                generalize utf sb = ub at hib hmb hab
                clear B9 hb10 HUA
                go_wp2_with fail
                refine (hia _).mono ?_
                rintro e w11 ⟨rfl, hb11⟩
                have B11 := bstep' B10 hb11
                clear B10 hb11
                go_wp2_with fail
                refine (hib _).mono ?_
                rintro e w12 ⟨rfl, hb12⟩
                have B12 := bstep' B11 hb12
                clear B11 hb12
                cases ub
                all_goals
                  go_wp2_with fail
                  refine (hma _).mono ?_
                  rintro e w' ⟨rfl, hw'⟩
                  subst w'
                  go_wp2_with fail
                  refine (hmb _).mono ?_
                  rintro e w' ⟨rfl, hw'⟩
                  subst w'
                  go_wp2_with fail
                  refine (hab _).mono ?_
                  rintro e w13 ⟨rfl, hb13⟩
                  go_wp2
                  go_ret
                  exact ⟨rfl, bstep' B12 hb13⟩
            | some nt =>
              have hut := name_utf HNM.out
              have hnl : nt.size ≤ 9223372036854775807 := name_size HNM.out (by omega)
              simp only [nameV]
              go_wp2_with fail
              refine (sNameOf_any i s _ (by omega)).mono ?_
              rintro e w7 ⟨rfl, hb7⟩
              rw [HNM.out]
              simp only [nameV]
              have B7 := bstep' B6 hb7
              have hu := fun w => iUtf_any nt w hnl
              rw [hut] at hu
              clear B6 hb7 m0 m1 HNM hut
              go_wp2_with fail
              refine (hu _).mono ?_
              rintro e w7b ⟨rfl, hb7b⟩
              have B8 := bstep' B7 hb7b
              clear B7 hb7b hu
              go_wp2_with fail
              refine (drawUtf_any a0 z0 c0 _ (HC.out _ B8).1).mono ?_
              rintro e w9 ⟨sa, rfl, hsa, hb9⟩
              have B9 := bstep' B8 hb9
              clear B8 hb9
              go_wp2_with fail
              refine (drawUtf_any a1 z1 c1 _ (HC.out _ B9).2).mono ?_
              rintro e w10 ⟨sb, rfl, hsb, hb10⟩
              have B10 := bstep' B9 hb10
              have HUA : Hid (utf sa = true → utf (sa ++ sb) = utf sb) := utf_append sa sb
              have hia := fun w => iUtf_any sa w (by omega)
              have hib := fun w => iUtf_any sb w (by omega)
              have hma := fun w => sUtf_any sa w (by omega)
              have hmb := fun w => sUtf_any sb w (by omega)
              have hab := fun w => iUtf_any (sa ++ sb) w (by rw [ByteArray.size_append]; omega)
              generalize utf sa = ua at hia hma HUA
              cases ua with
              | false =>
                generalize utf sb = ub at hib hmb
                clear B9 hb10 HUA hab
                go_wp2_with fail
                refine (hia _).mono ?_
                rintro e w11 ⟨rfl, hb11⟩
                have B11 := bstep' B10 hb11
                clear B10 hb11
                go_wp2_with fail
                refine (hib _).mono ?_
                rintro e w12 ⟨rfl, hb12⟩
                have B12 := bstep' B11 hb12
                clear B11 hb12
                cases ub
                all_goals
                  go_wp2_with fail
                  refine (hma _).mono ?_
                  rintro e w' ⟨rfl, hw'⟩
                  subst w'
                  go_wp2_with fail
                  refine (hmb _).mono ?_
                  rintro e w' ⟨rfl, hw'⟩
                  subst w'
                  go_wp2
                  go_ret
                  exact ⟨rfl, B12⟩
              | true =>
                rw [HUA.out rfl] at hab
                generalize utf sb = ub at hib hmb hab
                clear B9 hb10 HUA
                go_wp2_with fail
                refine (hia _).mono ?_
                rintro e w11 ⟨rfl, hb11⟩
                have B11 := bstep' B10 hb11
                clear B10 hb11
                go_wp2_with fail
                refine (hib _).mono ?_
                rintro e w12 ⟨rfl, hb12⟩
                have B12 := bstep' B11 hb12
                clear B11 hb12
                cases ub
                all_goals
                  go_wp2_with fail
                  refine (hma _).mono ?_
                  rintro e w' ⟨rfl, hw'⟩
                  subst w'
                  go_wp2_with fail
                  refine (hmb _).mono ?_
                  rintro e w' ⟨rfl, hw'⟩
                  subst w'
                  go_wp2_with fail
                  refine (hab _).mono ?_
                  rintro e w13 ⟨rfl, hb13⟩
                  go_wp2
                  go_ret
                  exact ⟨rfl, bstep' B12 hb13⟩
        · obtain ⟨b, off, rfl, hat⟩ := r2.at hx
          have HA : Hid (_) := hat
          clear hat r2 hx
          go_wp2
          go_loopw [80] (fun t80 wr => ∃ k : Nat, t80 = .int .i64 k ∧ k ≤ D.length ∧ Below wo.heap.size wo wr) (fun t80 _ => D.length - (intOf t80).toNat)
          case atStart => exact ⟨0, rfl, by omega, Below.refl _ _⟩
          case round =>
            obtain ⟨k, rfl, hk, hBq⟩ := hrel
            by_cases hk2 : k < D.length
            · obtain ⟨i, s, x1, x2, hsz, hbw, HX⟩ := HA.out wr hBq k hk2
              have hi0 : ¬ i = 0 := HID.out k (i, s) HX.out
              go_wp2
              go_roundw
              case rel => exact ⟨k + 1, by go_num, by omega, bstep' hBq (below1 wr _)⟩
              case measure => simp [intOf]; omega
            · obtain rfl : k = D.length := by omega
              have B4 := bstep' B4 hBq
              clear HA HID hBq
              go_wp2_with fail
              refine (drawName_any a1 z1 c1 _ (HC.out _ B4).2).mono ?_
              rintro e w5 ⟨i, s, rfl, hs, hb5⟩
              have B5 := bstep' B4 hb5
              have B5' := bstep' B5 (below1 w5 (.cells #[.int .i64 i, .string s] 31))
              obtain ⟨nm, hnm⟩ : ∃ nm, nameI i s = nm := ⟨_, rfl⟩
              have HNM : Hid (nameI i s = nm) := hnm
              clear hnm hb5 B4
              go_wp2_with fail
              refine (iNameOf_any i s _ (by omega)).mono ?_
              rintro e w6 ⟨rfl, hb6⟩
              rw [HNM.out]
              obtain ⟨hc6, hf6⟩ := (⟨fun b o h => hb6.cell (p := ⟨b, o, none⟩) h, trivial⟩ : (∀ b o, b < (w5.alloc (.cells #[.int .i64 i, .string s] 31)).heap.size → w6.cell? ⟨b, o, none⟩ = (w5.alloc (.cells #[.int .i64 i, .string s] 31)).cell? ⟨b, o, none⟩) ∧ True)
              have m0 : w6.cell? ⟨w5.heap.size, 0, none⟩ = some (.int .i64 i) := by rw [hc6 _ _ (by simp)]; simp [go_sem]
              have m1 : w6.cell? ⟨w5.heap.size, 1, none⟩ = some (.string s) := by rw [hc6 _ _ (by simp)]; simp [go_sem]
              have B6 := bstep' B5' hb6
              clear hc6 hf6 hb6 B5 B5'
              cases nm with
              | none =>
                simp only [nameV]
                go_wp2_with fail
                refine (sNameOf_any i s _ (by omega)).mono ?_
                rintro e w7 ⟨rfl, hb7⟩
                rw [HNM.out]
                simp only [nameV]
                have B8 := bstep' B6 hb7
                clear B6 hb7 m0 m1 HNM
                go_wp2_with fail
                refine (drawUtf_any a0 z0 c0 _ (HC.out _ B8).1).mono ?_
                rintro e w9 ⟨sa, rfl, hsa, hb9⟩
                have B9 := bstep' B8 hb9
                clear B8 hb9
                go_wp2_with fail
                refine (drawUtf_any a1 z1 c1 _ (HC.out _ B9).2).mono ?_
                rintro e w10 ⟨sb, rfl, hsb, hb10⟩
                have B10 := bstep' B9 hb10
                have HUA : Hid (utf sa = true → utf (sa ++ sb) = utf sb) := utf_append sa sb
                have hia := fun w => iUtf_any sa w (by omega)
                have hib := fun w => iUtf_any sb w (by omega)
                have hma := fun w => sUtf_any sa w (by omega)
                have hmb := fun w => sUtf_any sb w (by omega)
                have hab := fun w => iUtf_any (sa ++ sb) w (by rw [ByteArray.size_append]; omega)
                generalize utf sa = ua at hia hma HUA
                cases ua with
                | false =>
                  generalize utf sb = ub at hib hmb
                  clear B9 hb10 HUA hab
                  go_wp2_with fail
                  refine (hia _).mono ?_
                  rintro e w11 ⟨rfl, hb11⟩
                  have B11 := bstep' B10 hb11
                  clear B10 hb11
                  go_wp2_with fail
                  refine (hib _).mono ?_
                  rintro e w12 ⟨rfl, hb12⟩
                  have B12 := bstep' B11 hb12
                  clear B11 hb12
                  cases ub
                  all_goals
                    go_wp2_with fail
                    refine (hma _).mono ?_
                    rintro e w' ⟨rfl, hw'⟩
                    subst w'
                    go_wp2_with fail
                    refine (hmb _).mono ?_
                    rintro e w' ⟨rfl, hw'⟩
                    subst w'
                    go_wp2
                    go_ret
                    exact ⟨rfl, B12⟩
                | true =>
                  rw [HUA.out rfl] at hab
                  generalize utf sb = ub at hib hmb hab
                  clear B9 hb10 HUA
                  go_wp2_with fail
                  refine (hia _).mono ?_
                  rintro e w11 ⟨rfl, hb11⟩
                  have B11 := bstep' B10 hb11
                  clear B10 hb11
                  go_wp2_with fail
                  refine (hib _).mono ?_
                  rintro e w12 ⟨rfl, hb12⟩
                  have B12 := bstep' B11 hb12
                  clear B11 hb12
                  cases ub
                  all_goals
                    go_wp2_with fail
                    refine (hma _).mono ?_
                    rintro e w' ⟨rfl, hw'⟩
                    subst w'
                    go_wp2_with fail
                    refine (hmb _).mono ?_
                    rintro e w' ⟨rfl, hw'⟩
                    subst w'
                    go_wp2_with fail
                    refine (hab _).mono ?_
                    rintro e w13 ⟨rfl, hb13⟩
                    go_wp2
                    go_ret
                    exact ⟨rfl, bstep' B12 hb13⟩
              | some nt =>
                have hut := name_utf HNM.out
                have hnl : nt.size ≤ 9223372036854775807 := name_size HNM.out (by omega)
                simp only [nameV]
                go_wp2_with fail
                refine (sNameOf_any i s _ (by omega)).mono ?_
                rintro e w7 ⟨rfl, hb7⟩
                rw [HNM.out]
                simp only [nameV]
                have B7 := bstep' B6 hb7
                have hu := fun w => iUtf_any nt w hnl
                rw [hut] at hu
                clear B6 hb7 m0 m1 HNM hut
                go_wp2_with fail
                refine (hu _).mono ?_
                rintro e w7b ⟨rfl, hb7b⟩
                have B8 := bstep' B7 hb7b
                clear B7 hb7b hu
                go_wp2_with fail
                refine (drawUtf_any a0 z0 c0 _ (HC.out _ B8).1).mono ?_
                rintro e w9 ⟨sa, rfl, hsa, hb9⟩
                have B9 := bstep' B8 hb9
                clear B8 hb9
                go_wp2_with fail
                refine (drawUtf_any a1 z1 c1 _ (HC.out _ B9).2).mono ?_
                rintro e w10 ⟨sb, rfl, hsb, hb10⟩
                have B10 := bstep' B9 hb10
                have HUA : Hid (utf sa = true → utf (sa ++ sb) = utf sb) := utf_append sa sb
                have hia := fun w => iUtf_any sa w (by omega)
                have hib := fun w => iUtf_any sb w (by omega)
                have hma := fun w => sUtf_any sa w (by omega)
                have hmb := fun w => sUtf_any sb w (by omega)
                have hab := fun w => iUtf_any (sa ++ sb) w (by rw [ByteArray.size_append]; omega)
                generalize utf sa = ua at hia hma HUA
                cases ua with
                | false =>
                  generalize utf sb = ub at hib hmb
                  clear B9 hb10 HUA hab
                  go_wp2_with fail
                  refine (hia _).mono ?_
                  rintro e w11 ⟨rfl, hb11⟩
                  have B11 := bstep' B10 hb11
                  clear B10 hb11
                  go_wp2_with fail
                  refine (hib _).mono ?_
                  rintro e w12 ⟨rfl, hb12⟩
                  have B12 := bstep' B11 hb12
                  clear B11 hb12
                  cases ub
                  all_goals
                    go_wp2_with fail
                    refine (hma _).mono ?_
                    rintro e w' ⟨rfl, hw'⟩
                    subst w'
                    go_wp2_with fail
                    refine (hmb _).mono ?_
                    rintro e w' ⟨rfl, hw'⟩
                    subst w'
                    go_wp2
                    go_ret
                    exact ⟨rfl, B12⟩
                | true =>
                  rw [HUA.out rfl] at hab
                  generalize utf sb = ub at hib hmb hab
                  clear B9 hb10 HUA
                  go_wp2_with fail
                  refine (hia _).mono ?_
                  rintro e w11 ⟨rfl, hb11⟩
                  have B11 := bstep' B10 hb11
                  clear B10 hb11
                  go_wp2_with fail
                  refine (hib _).mono ?_
                  rintro e w12 ⟨rfl, hb12⟩
                  have B12 := bstep' B11 hb12
                  clear B11 hb12
                  cases ub
                  all_goals
                    go_wp2_with fail
                    refine (hma _).mono ?_
                    rintro e w' ⟨rfl, hw'⟩
                    subst w'
                    go_wp2_with fail
                    refine (hmb _).mono ?_
                    rintro e w' ⟨rfl, hw'⟩
                    subst w'
                    go_wp2_with fail
                    refine (hab _).mono ?_
                    rintro e w13 ⟨rfl, hb13⟩
                    go_wp2
                    go_ret
                    exact ⟨rfl, bstep' B12 hb13⟩
end Go.Proofs.Ytjbmkkoggocemaa
