/- The law on rewriting is true at all bytes. -/
import Derived.Test.YtpjhmminbndgiaaDrawJ
import Derived.Test.YtpjhmminbndgiaaRwLaw
import Derived.Test.YtpjhmminbndgiaaIEnd
namespace Go.Proofs.Ytpjhmminbndgiaa
open Go.RowKit
set_option linter.unusedVariables false
set_option linter.unusedSimpArgs false
set_option maxHeartbeats 8000000
set_option maxRecDepth 100000

theorem lawRewrite_go (a0 a1 : Option Addr) (z0 z1 : List Int) (c0 c1 : Nat) (w : World) (h0 : Code w a0 z0) (h1 : Code w a1 z1) (hg : ¬ 1048576 < wrap64 ((z0.length : Int) + z1.length)) :
    Calls Try.prog 3 #[.slice a0 z0.length c0, .slice a1 z1.length c1] w fun e w' => e = .returned (.bool true) ∧ Below w.heap.size w w' := by
  have hl0 := h0.1
  have hl1 := h1.1
  have HC : Hid (∀ W, Below w.heap.size w W → Code W a0 z0 ∧ Code W a1 z1) := fun W hb => ⟨h0.later hb, h1.later hb⟩
  clear h0 h1
  go_enter Try.func3, Try.ntmps3
  go_wp2_with fail
  refine (drawNorm_any a0 c0 z0 _ (HC.out _ (Below.refl _ _)).1).mono ?_
  rintro e w1 ⟨⟨v, xs, s, rfl, ⟨⟨a, c, rfl, hr⟩, hsh, hx4⟩, hs⟩, B1⟩
  have HR := hid (fun W (hb : Below w1.heap.size w1 W) => hr.below hb)
  have HS := hid hsh
  have C14 := hid (fun W hb => iNormalOf_any a c xs s W (by omega) hsh (by omega) (hr.below (w' := W) hb))
  have C15 := hid (fun W hb => sNormalOf_any a c xs s W (by omega) hsh (by omega) (hr.below (w' := W) hb))
  have C16 := hid (fun W hb => iLastOf_any a c xs s W (by omega) hsh (by omega) (hr.below (w' := W) hb))
  have C17 := hid (fun W hb => sLastOf_any a c xs s W (by omega) hsh (by omega) (hr.below (w' := W) hb))
  have C18 := hid (fun W hb => iConf_any a c xs W (by omega) hsh (hr.below (w' := W) hb))
  have C19 := hid (fun W hb => sConf_any a c xs W (by omega) hsh (hr.below (w' := W) hb))
  clear hr hsh
  obtain ⟨lu, lb, hlv, hlx⟩ := lastV_is (xs := xs) (s := s)
  obtain ⟨k1, hk1⟩ : ∃ b, (isConf xs).1 = b := ⟨_, rfl⟩
  obtain ⟨k2, hk2⟩ : ∃ b, (isConf xs).2 = b := ⟨_, rfl⟩
  rw [hlv] at C16 C17
  rw [hk1, hk2] at C18 C19
  have HCF := hid (fun (x1 : k1 = true) (x2 : k2 = true) => show isConf xs = (true, true) from Prod.ext (hk1.trans x1) (hk2.trans x2))
  have HLX := hid hlx
  have el : (lb == lb) = true := by cases lb <;> rfl
  have el2 : (lb != lb) = false := by cases lb <;> rfl
  have ek1 : (k1 != k1) = false := by cases k1 <;> rfl
  have ek2 : (k2 != k2) = false := by cases k2 <;> rfl
  clear hlv hlx hk1 hk2
  cases hN : normOf false xs s with
  | none =>
    rw [hN] at C14 C15
    simp only [endV] at C14 C15
    clear hN
    go_wp2_with fail
    refine (C14.out _ (Below.refl _ _)).mono ?_
    rintro e w2 ⟨rfl, hb2⟩
    go_wp2_with fail
    refine (C15.out _ hb2).mono ?_
    rintro e w3 ⟨rfl, hb3⟩
    have hb3 := bstep' hb2 hb3
    go_wp2_with fail
    refine (C16.out _ hb3).mono ?_
    rintro e w4 ⟨rfl, hb4⟩
    have hb4 := bstep' hb3 hb4
    go_wp2_with fail
    refine (C17.out _ hb4).mono ?_
    rintro e w5 ⟨rfl, hb5⟩
    have hb5 := bstep' hb4 hb5
    go_wp2_with fail
    refine (C18.out _ hb5).mono ?_
    rintro e w6 ⟨rfl, hb6⟩
    have hb6 := bstep' hb5 hb6
    go_wp2_with fail
    refine (C19.out _ hb6).mono ?_
    rintro e w7 ⟨rfl, hb7⟩
    have HB7 := hid (bstep' hb6 hb7)
    clear hb2 hb3 hb4 hb5 hb6 hb7 C14 C15 C16 C17 C18 C19
    have HB := hid (bstep' B1 HB7.out)
    clear HB7 B1 HR HS HCF HLX
    go_wp2_with fail
    refine (drawJoined_any a1 c1 z1 _ (HC.out _ HB.out).2).mono ?_
    rintro e w20 ⟨⟨v20, ys, x, y, rfl, ⟨⟨ja, jc, rfl, hrj⟩, hsj, hj4⟩, hxs, hys⟩, hb20⟩
    obtain ⟨J1, hJ1⟩ : ∃ b, (joinV (normOf false ys x) (normOf false ys y)).1 = b := ⟨_, rfl⟩
    obtain ⟨J2, hJ2⟩ : ∃ b, (joinV (normOf false ys x) (normOf false ys y)).2 = b := ⟨_, rfl⟩
    have CI := hid (fun W hw => iJoinedBy_any ja jc ys x y W (by omega) hsj (by omega) (by omega) (hrj.below (w' := W) hw))
    have CS := hid (fun W hw => sJoinedBy_any ja jc ys x y W (by omega) hsj (by omega) (by omega) (hrj.below (w' := W) hw))
    rw [hJ1, hJ2] at CI CS
    clear hrj hsj hJ1 hJ2
    go_wp2_with fail
    refine (CI.out _ (Below.refl _ _)).mono ?_
    rintro e w21 ⟨rfl, hb21⟩
    go_wp2_with fail
    refine (CS.out _ hb21).mono ?_
    rintro e w22 ⟨rfl, hb22⟩
    have HBE := hid (bstep' (bstep' (bstep' HB.out hb20) hb21) hb22)
    have e1 : (J1 == J1) = true := by cases J1 <;> rfl
    have e2 : (J2 == J2) = true := by cases J2 <;> rfl
    clear CI CS HB HC hb20 hb21 hb22
    go_wp2
    go_ret
    exact ⟨rfl, HBE.out⟩
  | some tn =>
    obtain ⟨t, n⟩ := tn
    rw [hN] at C14 C15
    simp only [endV] at C14 C15
    have HF := hid (norm_facts hN)
    have hts := HF.out.2.2.2.2.2.1
    have hn4 := HF.out.2.2.2.2.1
    have HN := hid hN
    clear hN
    go_wp2_with fail
    refine (C14.out _ (Below.refl _ _)).mono ?_
    rintro e w2 ⟨rfl, hb2⟩
    go_wp2_with fail
    refine (C15.out _ hb2).mono ?_
    rintro e w3 ⟨rfl, hb3⟩
    have hb3 := bstep' hb2 hb3
    go_wp2_with fail
    refine (C16.out _ hb3).mono ?_
    rintro e w4 ⟨rfl, hb4⟩
    have hb4 := bstep' hb3 hb4
    go_wp2_with fail
    refine (C17.out _ hb4).mono ?_
    rintro e w5 ⟨rfl, hb5⟩
    have hb5 := bstep' hb4 hb5
    go_wp2_with fail
    refine (C18.out _ hb5).mono ?_
    rintro e w6 ⟨rfl, hb6⟩
    have hb6 := bstep' hb5 hb6
    go_wp2_with fail
    refine (C19.out _ hb6).mono ?_
    rintro e w7 ⟨rfl, hb7⟩
    have HB7 := hid (bstep' hb6 hb7)
    clear hb2 hb3 hb4 hb5 hb6 hb7 C14 C15 C16 C17 C18 C19
    have C20 := hid (iOnceBy_any a c xs (Sb t) w7 (by omega) HS.out (by rw [Bt_size, Bt_Sb]; omega) (HR.out _ HB7.out))
    rw [HF.out.1, HF.out.2.1] at C20
    have HLS := hid (HF.out.2.2.2.1)
    have HN0 := hid (HF.out.2.2.1)
    go_wp2_with fail
    refine C20.out.mono ?_
    rintro e w8 ⟨⟨v8, rfl, ho8⟩, hb8⟩
    obtain ⟨oa, oc, rfl⟩ := slice_of_owned ho8
    have HB8 := hid (bstep' HB7.out hb8)
    clear ho8 hb8 C20 HB7
    have C21 := fun W => iShort_any (Sb t) s W (by rw [Bt_size, Bt_Sb]; omega) (by omega)
    rw [Bt_Sb] at C21
    by_cases hn0 : n = 0
    · subst hn0
      have hst : (Sb t).toList = s.toList := by rw [Bt_toList, Bt_toList, Bt_Sb, HN0.out.1 rfl]
      clear HN0 HLS C21
      cases k2 with
      | false =>
        have HB := hid (bstep' B1 HB8.out)
        clear HB8 HF HN HR HS HCF HLX
        go_wp2_with fail
        refine (drawJoined_any a1 c1 z1 _ (HC.out _ HB.out).2).mono ?_
        rintro e w20 ⟨⟨v20, ys, x, y, rfl, ⟨⟨ja, jc, rfl, hrj⟩, hsj, hj4⟩, hxs, hys⟩, hb20⟩
        obtain ⟨J1, hJ1⟩ : ∃ b, (joinV (normOf false ys x) (normOf false ys y)).1 = b := ⟨_, rfl⟩
        obtain ⟨J2, hJ2⟩ : ∃ b, (joinV (normOf false ys x) (normOf false ys y)).2 = b := ⟨_, rfl⟩
        have CI := hid (fun W hw => iJoinedBy_any ja jc ys x y W (by omega) hsj (by omega) (by omega) (hrj.below (w' := W) hw))
        have CS := hid (fun W hw => sJoinedBy_any ja jc ys x y W (by omega) hsj (by omega) (by omega) (hrj.below (w' := W) hw))
        rw [hJ1, hJ2] at CI CS
        clear hrj hsj hJ1 hJ2
        go_wp2_with fail
        refine (CI.out _ (Below.refl _ _)).mono ?_
        rintro e w21 ⟨rfl, hb21⟩
        go_wp2_with fail
        refine (CS.out _ hb21).mono ?_
        rintro e w22 ⟨rfl, hb22⟩
        have HBE := hid (bstep' (bstep' (bstep' HB.out hb20) hb21) hb22)
        have e1 : (J1 == J1) = true := by cases J1 <;> rfl
        have e2 : (J2 == J2) = true := by cases J2 <;> rfl
        clear CI CS HB HC hb20 hb21 hb22
        go_wp2
        go_ret
        exact ⟨rfl, HBE.out⟩
      | true =>
        cases k1 with
        | false =>
          have HB := hid (bstep' B1 HB8.out)
          clear HB8 HF HN HR HS HCF HLX
          go_wp2_with fail
          refine (drawJoined_any a1 c1 z1 _ (HC.out _ HB.out).2).mono ?_
          rintro e w20 ⟨⟨v20, ys, x, y, rfl, ⟨⟨ja, jc, rfl, hrj⟩, hsj, hj4⟩, hxs, hys⟩, hb20⟩
          obtain ⟨J1, hJ1⟩ : ∃ b, (joinV (normOf false ys x) (normOf false ys y)).1 = b := ⟨_, rfl⟩
          obtain ⟨J2, hJ2⟩ : ∃ b, (joinV (normOf false ys x) (normOf false ys y)).2 = b := ⟨_, rfl⟩
          have CI := hid (fun W hw => iJoinedBy_any ja jc ys x y W (by omega) hsj (by omega) (by omega) (hrj.below (w' := W) hw))
          have CS := hid (fun W hw => sJoinedBy_any ja jc ys x y W (by omega) hsj (by omega) (by omega) (hrj.below (w' := W) hw))
          rw [hJ1, hJ2] at CI CS
          clear hrj hsj hJ1 hJ2
          go_wp2_with fail
          refine (CI.out _ (Below.refl _ _)).mono ?_
          rintro e w21 ⟨rfl, hb21⟩
          go_wp2_with fail
          refine (CS.out _ hb21).mono ?_
          rintro e w22 ⟨rfl, hb22⟩
          have HBE := hid (bstep' (bstep' (bstep' HB.out hb20) hb21) hb22)
          have e1 : (J1 == J1) = true := by cases J1 <;> rfl
          have e2 : (J2 == J2) = true := by cases J2 <;> rfl
          clear CI CS HB HC hb20 hb21 hb22
          go_wp2
          go_ret
          exact ⟨rfl, HBE.out⟩
        | true =>
          have hcf := HCF.out rfl rfl
          cases lb with
          | true =>
            obtain rfl : lu = Sb t := by obtain ⟨x, m, hx, hxe⟩ := HLX.out rfl; rw [hxe, conf_last hcf HN.out hx]
            clear HCF HLX
            have C22 := hid (iOnceBy_any a c xs s w8 (by omega) HS.out (by omega) (HR.out _ HB8.out))
            obtain ⟨os, hos⟩ : ∃ os, onceBy xs s = os := ⟨_, rfl⟩
            have hol := onceBy_len xs s
            have HU := hid (fun (k : Nat) (u : Tx) (hu : os[k]? = some u) => And.intro (show u ∈ onceBy xs s from hos ▸ List.mem_of_getElem? hu) (once_less (xs := xs) (s := s) (hos ▸ List.mem_of_getElem? hu) hs).2)
            rw [HF.out.2.2.2.2.2.2, hos] at C22
            rw [hos] at hol
            clear hos
            go_wp2_with fail
            refine C22.out.mono ?_
            rintro e w9 ⟨⟨v9, rfl, ho9⟩, hb9⟩
            obtain ⟨pa, pc, rfl, ht9⟩ := TRow.of_owned ho9 rfl
            have HT9 := hid ht9
            have HB9 := hid (bstep' HB8.out hb9)
            clear ho9 hb9 C22 ht9 HB8
            by_cases hpos : 0 < os.length
            · go_wp2_with fail
              refine (numberOf_any a1 c1 z1 _ (HC.out _ (bstep' B1 HB9.out)).2).mono ?_
              rintro e w10 ⟨⟨r, rfl, hr⟩, hb10⟩
              obtain ⟨pb, poff, rfl, hat⟩ := (HT9.out.below hb10).resolve_left (by intro e; subst e; simp at hpos)
              have HB10 := hid (bstep' HB9.out hb10)
              obtain ⟨u, hu⟩ : ∃ u, os[r % os.length]? = some u := ⟨_, List.getElem?_eq_getElem (Nat.mod_lt _ hpos)⟩
              have c0 := hat _ u hu
              obtain ⟨hum, huz⟩ := HU.out _ u hu
              obtain ⟨eu, em, eb, hev, hex⟩ := endV_is (last := false) (xs := xs) (s := Sb u)
              have C23 := hid (iNormalOf_any a c xs (Sb u) w10 (by omega) HS.out (by rw [Bt_size, Bt_Sb]; omega) (HR.out _ HB10.out))
              rw [hev] at C23
              have HE := hid (fun hb : eb = true => show eu = Sb t by obtain ⟨x, m, hx, hxe⟩ := hex hb; rw [hxe, conf_some hcf HN.out hum hx])
              obtain ⟨q, hq⟩ : ∃ q, q = r % os.length := ⟨_, rfl⟩
              have hql : q < os.length := by rw [hq]; exact Nat.mod_lt _ hpos
              have hrem : Int.tmod (r : Int) (os.length : Int) = (q : Int) := by rw [hq]; rfl
              rw [← hq] at c0
              clear hat hu hum hev hex hb10 HT9 HB9 HU hq
              go_wp2_with fail
              refine C23.out.mono ?_
              rintro e w11 ⟨rfl, hb11⟩
              have HB := hid (bstep' B1 (bstep' HB10.out hb11))
              clear hb11 HB10 C23 c0
              cases eb with
              | true =>
                obtain rfl := HE.out rfl
                clear HE HF HN HR HS hcf
                go_wp2_with fail
                refine (drawJoined_any a1 c1 z1 _ (HC.out _ HB.out).2).mono ?_
                rintro e w20 ⟨⟨v20, ys, x, y, rfl, ⟨⟨ja, jc, rfl, hrj⟩, hsj, hj4⟩, hxs, hys⟩, hb20⟩
                obtain ⟨J1, hJ1⟩ : ∃ b, (joinV (normOf false ys x) (normOf false ys y)).1 = b := ⟨_, rfl⟩
                obtain ⟨J2, hJ2⟩ : ∃ b, (joinV (normOf false ys x) (normOf false ys y)).2 = b := ⟨_, rfl⟩
                have CI := hid (fun W hw => iJoinedBy_any ja jc ys x y W (by omega) hsj (by omega) (by omega) (hrj.below (w' := W) hw))
                have CS := hid (fun W hw => sJoinedBy_any ja jc ys x y W (by omega) hsj (by omega) (by omega) (hrj.below (w' := W) hw))
                rw [hJ1, hJ2] at CI CS
                clear hrj hsj hJ1 hJ2
                go_wp2_with fail
                refine (CI.out _ (Below.refl _ _)).mono ?_
                rintro e w21 ⟨rfl, hb21⟩
                go_wp2_with fail
                refine (CS.out _ hb21).mono ?_
                rintro e w22 ⟨rfl, hb22⟩
                have HBE := hid (bstep' (bstep' (bstep' HB.out hb20) hb21) hb22)
                have e1 : (J1 == J1) = true := by cases J1 <;> rfl
                have e2 : (J2 == J2) = true := by cases J2 <;> rfl
                clear CI CS HB HC hb20 hb21 hb22
                go_wp2
                go_ret
                exact ⟨rfl, HBE.out⟩
              | false =>
                clear HE HF HN HR HS hcf
                go_wp2_with fail
                refine (drawJoined_any a1 c1 z1 _ (HC.out _ HB.out).2).mono ?_
                rintro e w20 ⟨⟨v20, ys, x, y, rfl, ⟨⟨ja, jc, rfl, hrj⟩, hsj, hj4⟩, hxs, hys⟩, hb20⟩
                obtain ⟨J1, hJ1⟩ : ∃ b, (joinV (normOf false ys x) (normOf false ys y)).1 = b := ⟨_, rfl⟩
                obtain ⟨J2, hJ2⟩ : ∃ b, (joinV (normOf false ys x) (normOf false ys y)).2 = b := ⟨_, rfl⟩
                have CI := hid (fun W hw => iJoinedBy_any ja jc ys x y W (by omega) hsj (by omega) (by omega) (hrj.below (w' := W) hw))
                have CS := hid (fun W hw => sJoinedBy_any ja jc ys x y W (by omega) hsj (by omega) (by omega) (hrj.below (w' := W) hw))
                rw [hJ1, hJ2] at CI CS
                clear hrj hsj hJ1 hJ2
                go_wp2_with fail
                refine (CI.out _ (Below.refl _ _)).mono ?_
                rintro e w21 ⟨rfl, hb21⟩
                go_wp2_with fail
                refine (CS.out _ hb21).mono ?_
                rintro e w22 ⟨rfl, hb22⟩
                have HBE := hid (bstep' (bstep' (bstep' HB.out hb20) hb21) hb22)
                have e1 : (J1 == J1) = true := by cases J1 <;> rfl
                have e2 : (J2 == J2) = true := by cases J2 <;> rfl
                clear CI CS HB HC hb20 hb21 hb22
                go_wp2
                go_ret
                exact ⟨rfl, HBE.out⟩
            · have HB := hid (bstep' B1 HB9.out)
              clear HB9 HT9 HU HF HN HR HS hcf
              go_wp2_with fail
              refine (drawJoined_any a1 c1 z1 _ (HC.out _ HB.out).2).mono ?_
              rintro e w20 ⟨⟨v20, ys, x, y, rfl, ⟨⟨ja, jc, rfl, hrj⟩, hsj, hj4⟩, hxs, hys⟩, hb20⟩
              obtain ⟨J1, hJ1⟩ : ∃ b, (joinV (normOf false ys x) (normOf false ys y)).1 = b := ⟨_, rfl⟩
              obtain ⟨J2, hJ2⟩ : ∃ b, (joinV (normOf false ys x) (normOf false ys y)).2 = b := ⟨_, rfl⟩
              have CI := hid (fun W hw => iJoinedBy_any ja jc ys x y W (by omega) hsj (by omega) (by omega) (hrj.below (w' := W) hw))
              have CS := hid (fun W hw => sJoinedBy_any ja jc ys x y W (by omega) hsj (by omega) (by omega) (hrj.below (w' := W) hw))
              rw [hJ1, hJ2] at CI CS
              clear hrj hsj hJ1 hJ2
              go_wp2_with fail
              refine (CI.out _ (Below.refl _ _)).mono ?_
              rintro e w21 ⟨rfl, hb21⟩
              go_wp2_with fail
              refine (CS.out _ hb21).mono ?_
              rintro e w22 ⟨rfl, hb22⟩
              have HBE := hid (bstep' (bstep' (bstep' HB.out hb20) hb21) hb22)
              have e1 : (J1 == J1) = true := by cases J1 <;> rfl
              have e2 : (J2 == J2) = true := by cases J2 <;> rfl
              clear CI CS HB HC hb20 hb21 hb22
              go_wp2
              go_ret
              exact ⟨rfl, HBE.out⟩
          | false =>
            clear HCF HLX
            have C22 := hid (iOnceBy_any a c xs s w8 (by omega) HS.out (by omega) (HR.out _ HB8.out))
            obtain ⟨os, hos⟩ : ∃ os, onceBy xs s = os := ⟨_, rfl⟩
            have hol := onceBy_len xs s
            have HU := hid (fun (k : Nat) (u : Tx) (hu : os[k]? = some u) => And.intro (show u ∈ onceBy xs s from hos ▸ List.mem_of_getElem? hu) (once_less (xs := xs) (s := s) (hos ▸ List.mem_of_getElem? hu) hs).2)
            rw [HF.out.2.2.2.2.2.2, hos] at C22
            rw [hos] at hol
            clear hos
            go_wp2_with fail
            refine C22.out.mono ?_
            rintro e w9 ⟨⟨v9, rfl, ho9⟩, hb9⟩
            obtain ⟨pa, pc, rfl, ht9⟩ := TRow.of_owned ho9 rfl
            have HT9 := hid ht9
            have HB9 := hid (bstep' HB8.out hb9)
            clear ho9 hb9 C22 ht9 HB8
            by_cases hpos : 0 < os.length
            · go_wp2_with fail
              refine (numberOf_any a1 c1 z1 _ (HC.out _ (bstep' B1 HB9.out)).2).mono ?_
              rintro e w10 ⟨⟨r, rfl, hr⟩, hb10⟩
              obtain ⟨pb, poff, rfl, hat⟩ := (HT9.out.below hb10).resolve_left (by intro e; subst e; simp at hpos)
              have HB10 := hid (bstep' HB9.out hb10)
              obtain ⟨u, hu⟩ : ∃ u, os[r % os.length]? = some u := ⟨_, List.getElem?_eq_getElem (Nat.mod_lt _ hpos)⟩
              have c0 := hat _ u hu
              obtain ⟨hum, huz⟩ := HU.out _ u hu
              obtain ⟨eu, em, eb, hev, hex⟩ := endV_is (last := false) (xs := xs) (s := Sb u)
              have C23 := hid (iNormalOf_any a c xs (Sb u) w10 (by omega) HS.out (by rw [Bt_size, Bt_Sb]; omega) (HR.out _ HB10.out))
              rw [hev] at C23
              have HE := hid (fun hb : eb = true => show eu = Sb t by obtain ⟨x, m, hx, hxe⟩ := hex hb; rw [hxe, conf_some hcf HN.out hum hx])
              obtain ⟨q, hq⟩ : ∃ q, q = r % os.length := ⟨_, rfl⟩
              have hql : q < os.length := by rw [hq]; exact Nat.mod_lt _ hpos
              have hrem : Int.tmod (r : Int) (os.length : Int) = (q : Int) := by rw [hq]; rfl
              rw [← hq] at c0
              clear hat hu hum hev hex hb10 HT9 HB9 HU hq
              go_wp2_with fail
              refine C23.out.mono ?_
              rintro e w11 ⟨rfl, hb11⟩
              have HB := hid (bstep' B1 (bstep' HB10.out hb11))
              clear hb11 HB10 C23 c0
              cases eb with
              | true =>
                obtain rfl := HE.out rfl
                clear HE HF HN HR HS hcf
                go_wp2_with fail
                refine (drawJoined_any a1 c1 z1 _ (HC.out _ HB.out).2).mono ?_
                rintro e w20 ⟨⟨v20, ys, x, y, rfl, ⟨⟨ja, jc, rfl, hrj⟩, hsj, hj4⟩, hxs, hys⟩, hb20⟩
                obtain ⟨J1, hJ1⟩ : ∃ b, (joinV (normOf false ys x) (normOf false ys y)).1 = b := ⟨_, rfl⟩
                obtain ⟨J2, hJ2⟩ : ∃ b, (joinV (normOf false ys x) (normOf false ys y)).2 = b := ⟨_, rfl⟩
                have CI := hid (fun W hw => iJoinedBy_any ja jc ys x y W (by omega) hsj (by omega) (by omega) (hrj.below (w' := W) hw))
                have CS := hid (fun W hw => sJoinedBy_any ja jc ys x y W (by omega) hsj (by omega) (by omega) (hrj.below (w' := W) hw))
                rw [hJ1, hJ2] at CI CS
                clear hrj hsj hJ1 hJ2
                go_wp2_with fail
                refine (CI.out _ (Below.refl _ _)).mono ?_
                rintro e w21 ⟨rfl, hb21⟩
                go_wp2_with fail
                refine (CS.out _ hb21).mono ?_
                rintro e w22 ⟨rfl, hb22⟩
                have HBE := hid (bstep' (bstep' (bstep' HB.out hb20) hb21) hb22)
                have e1 : (J1 == J1) = true := by cases J1 <;> rfl
                have e2 : (J2 == J2) = true := by cases J2 <;> rfl
                clear CI CS HB HC hb20 hb21 hb22
                go_wp2
                go_ret
                exact ⟨rfl, HBE.out⟩
              | false =>
                clear HE HF HN HR HS hcf
                go_wp2_with fail
                refine (drawJoined_any a1 c1 z1 _ (HC.out _ HB.out).2).mono ?_
                rintro e w20 ⟨⟨v20, ys, x, y, rfl, ⟨⟨ja, jc, rfl, hrj⟩, hsj, hj4⟩, hxs, hys⟩, hb20⟩
                obtain ⟨J1, hJ1⟩ : ∃ b, (joinV (normOf false ys x) (normOf false ys y)).1 = b := ⟨_, rfl⟩
                obtain ⟨J2, hJ2⟩ : ∃ b, (joinV (normOf false ys x) (normOf false ys y)).2 = b := ⟨_, rfl⟩
                have CI := hid (fun W hw => iJoinedBy_any ja jc ys x y W (by omega) hsj (by omega) (by omega) (hrj.below (w' := W) hw))
                have CS := hid (fun W hw => sJoinedBy_any ja jc ys x y W (by omega) hsj (by omega) (by omega) (hrj.below (w' := W) hw))
                rw [hJ1, hJ2] at CI CS
                clear hrj hsj hJ1 hJ2
                go_wp2_with fail
                refine (CI.out _ (Below.refl _ _)).mono ?_
                rintro e w21 ⟨rfl, hb21⟩
                go_wp2_with fail
                refine (CS.out _ hb21).mono ?_
                rintro e w22 ⟨rfl, hb22⟩
                have HBE := hid (bstep' (bstep' (bstep' HB.out hb20) hb21) hb22)
                have e1 : (J1 == J1) = true := by cases J1 <;> rfl
                have e2 : (J2 == J2) = true := by cases J2 <;> rfl
                clear CI CS HB HC hb20 hb21 hb22
                go_wp2
                go_ret
                exact ⟨rfl, HBE.out⟩
            · have HB := hid (bstep' B1 HB9.out)
              clear HB9 HT9 HU HF HN HR HS hcf
              go_wp2_with fail
              refine (drawJoined_any a1 c1 z1 _ (HC.out _ HB.out).2).mono ?_
              rintro e w20 ⟨⟨v20, ys, x, y, rfl, ⟨⟨ja, jc, rfl, hrj⟩, hsj, hj4⟩, hxs, hys⟩, hb20⟩
              obtain ⟨J1, hJ1⟩ : ∃ b, (joinV (normOf false ys x) (normOf false ys y)).1 = b := ⟨_, rfl⟩
              obtain ⟨J2, hJ2⟩ : ∃ b, (joinV (normOf false ys x) (normOf false ys y)).2 = b := ⟨_, rfl⟩
              have CI := hid (fun W hw => iJoinedBy_any ja jc ys x y W (by omega) hsj (by omega) (by omega) (hrj.below (w' := W) hw))
              have CS := hid (fun W hw => sJoinedBy_any ja jc ys x y W (by omega) hsj (by omega) (by omega) (hrj.below (w' := W) hw))
              rw [hJ1, hJ2] at CI CS
              clear hrj hsj hJ1 hJ2
              go_wp2_with fail
              refine (CI.out _ (Below.refl _ _)).mono ?_
              rintro e w21 ⟨rfl, hb21⟩
              go_wp2_with fail
              refine (CS.out _ hb21).mono ?_
              rintro e w22 ⟨rfl, hb22⟩
              have HBE := hid (bstep' (bstep' (bstep' HB.out hb20) hb21) hb22)
              have e1 : (J1 == J1) = true := by cases J1 <;> rfl
              have e2 : (J2 == J2) = true := by cases J2 <;> rfl
              clear CI CS HB HC hb20 hb21 hb22
              go_wp2
              go_ret
              exact ⟨rfl, HBE.out⟩
    · have hst : ¬ (Sb t).toList = s.toList := by
        rw [Bt_toList, Bt_toList, Bt_Sb]
        exact fun e => hn0 (HN0.out.2 e)
      have hz0 : ((n : Int) == 0) = false := by simpa using hn0
      have hst2 : ((Sb t).toList == s.toList) = false := by simpa using hst
      have hnp : (0 : Int) < n := by omega
      have hsl := HLS.out (by omega)
      rw [hsl] at C21
      have C21 := hid C21
      clear HN0 HLS hsl hst hn0
      go_wp2_with fail
      refine (C21.out _).mono ?_
      rintro e w81 ⟨rfl, rfl⟩
      clear C21
      cases k2 with
      | false =>
        have HB := hid (bstep' B1 HB8.out)
        clear HB8 HF HN HR HS HCF HLX
        go_wp2_with fail
        refine (drawJoined_any a1 c1 z1 _ (HC.out _ HB.out).2).mono ?_
        rintro e w20 ⟨⟨v20, ys, x, y, rfl, ⟨⟨ja, jc, rfl, hrj⟩, hsj, hj4⟩, hxs, hys⟩, hb20⟩
        obtain ⟨J1, hJ1⟩ : ∃ b, (joinV (normOf false ys x) (normOf false ys y)).1 = b := ⟨_, rfl⟩
        obtain ⟨J2, hJ2⟩ : ∃ b, (joinV (normOf false ys x) (normOf false ys y)).2 = b := ⟨_, rfl⟩
        have CI := hid (fun W hw => iJoinedBy_any ja jc ys x y W (by omega) hsj (by omega) (by omega) (hrj.below (w' := W) hw))
        have CS := hid (fun W hw => sJoinedBy_any ja jc ys x y W (by omega) hsj (by omega) (by omega) (hrj.below (w' := W) hw))
        rw [hJ1, hJ2] at CI CS
        clear hrj hsj hJ1 hJ2
        go_wp2_with fail
        refine (CI.out _ (Below.refl _ _)).mono ?_
        rintro e w21 ⟨rfl, hb21⟩
        go_wp2_with fail
        refine (CS.out _ hb21).mono ?_
        rintro e w22 ⟨rfl, hb22⟩
        have HBE := hid (bstep' (bstep' (bstep' HB.out hb20) hb21) hb22)
        have e1 : (J1 == J1) = true := by cases J1 <;> rfl
        have e2 : (J2 == J2) = true := by cases J2 <;> rfl
        clear CI CS HB HC hb20 hb21 hb22
        go_wp2
        go_ret
        exact ⟨rfl, HBE.out⟩
      | true =>
        cases k1 with
        | false =>
          have HB := hid (bstep' B1 HB8.out)
          clear HB8 HF HN HR HS HCF HLX
          go_wp2_with fail
          refine (drawJoined_any a1 c1 z1 _ (HC.out _ HB.out).2).mono ?_
          rintro e w20 ⟨⟨v20, ys, x, y, rfl, ⟨⟨ja, jc, rfl, hrj⟩, hsj, hj4⟩, hxs, hys⟩, hb20⟩
          obtain ⟨J1, hJ1⟩ : ∃ b, (joinV (normOf false ys x) (normOf false ys y)).1 = b := ⟨_, rfl⟩
          obtain ⟨J2, hJ2⟩ : ∃ b, (joinV (normOf false ys x) (normOf false ys y)).2 = b := ⟨_, rfl⟩
          have CI := hid (fun W hw => iJoinedBy_any ja jc ys x y W (by omega) hsj (by omega) (by omega) (hrj.below (w' := W) hw))
          have CS := hid (fun W hw => sJoinedBy_any ja jc ys x y W (by omega) hsj (by omega) (by omega) (hrj.below (w' := W) hw))
          rw [hJ1, hJ2] at CI CS
          clear hrj hsj hJ1 hJ2
          go_wp2_with fail
          refine (CI.out _ (Below.refl _ _)).mono ?_
          rintro e w21 ⟨rfl, hb21⟩
          go_wp2_with fail
          refine (CS.out _ hb21).mono ?_
          rintro e w22 ⟨rfl, hb22⟩
          have HBE := hid (bstep' (bstep' (bstep' HB.out hb20) hb21) hb22)
          have e1 : (J1 == J1) = true := by cases J1 <;> rfl
          have e2 : (J2 == J2) = true := by cases J2 <;> rfl
          clear CI CS HB HC hb20 hb21 hb22
          go_wp2
          go_ret
          exact ⟨rfl, HBE.out⟩
        | true =>
          have hcf := HCF.out rfl rfl
          cases lb with
          | true =>
            obtain rfl : lu = Sb t := by obtain ⟨x, m, hx, hxe⟩ := HLX.out rfl; rw [hxe, conf_last hcf HN.out hx]
            clear HCF HLX
            have C22 := hid (iOnceBy_any a c xs s w81 (by omega) HS.out (by omega) (HR.out _ HB8.out))
            obtain ⟨os, hos⟩ : ∃ os, onceBy xs s = os := ⟨_, rfl⟩
            have hol := onceBy_len xs s
            have HU := hid (fun (k : Nat) (u : Tx) (hu : os[k]? = some u) => And.intro (show u ∈ onceBy xs s from hos ▸ List.mem_of_getElem? hu) (once_less (xs := xs) (s := s) (hos ▸ List.mem_of_getElem? hu) hs).2)
            rw [HF.out.2.2.2.2.2.2, hos] at C22
            rw [hos] at hol
            clear hos
            go_wp2_with fail
            refine C22.out.mono ?_
            rintro e w9 ⟨⟨v9, rfl, ho9⟩, hb9⟩
            obtain ⟨pa, pc, rfl, ht9⟩ := TRow.of_owned ho9 rfl
            have HT9 := hid ht9
            have HB9 := hid (bstep' HB8.out hb9)
            clear ho9 hb9 C22 ht9 HB8
            by_cases hpos : 0 < os.length
            · go_wp2_with fail
              refine (numberOf_any a1 c1 z1 _ (HC.out _ (bstep' B1 HB9.out)).2).mono ?_
              rintro e w10 ⟨⟨r, rfl, hr⟩, hb10⟩
              obtain ⟨pb, poff, rfl, hat⟩ := (HT9.out.below hb10).resolve_left (by intro e; subst e; simp at hpos)
              have HB10 := hid (bstep' HB9.out hb10)
              obtain ⟨u, hu⟩ : ∃ u, os[r % os.length]? = some u := ⟨_, List.getElem?_eq_getElem (Nat.mod_lt _ hpos)⟩
              have c0 := hat _ u hu
              obtain ⟨hum, huz⟩ := HU.out _ u hu
              obtain ⟨eu, em, eb, hev, hex⟩ := endV_is (last := false) (xs := xs) (s := Sb u)
              have C23 := hid (iNormalOf_any a c xs (Sb u) w10 (by omega) HS.out (by rw [Bt_size, Bt_Sb]; omega) (HR.out _ HB10.out))
              rw [hev] at C23
              have HE := hid (fun hb : eb = true => show eu = Sb t by obtain ⟨x, m, hx, hxe⟩ := hex hb; rw [hxe, conf_some hcf HN.out hum hx])
              obtain ⟨q, hq⟩ : ∃ q, q = r % os.length := ⟨_, rfl⟩
              have hql : q < os.length := by rw [hq]; exact Nat.mod_lt _ hpos
              have hrem : Int.tmod (r : Int) (os.length : Int) = (q : Int) := by rw [hq]; rfl
              rw [← hq] at c0
              clear hat hu hum hev hex hb10 HT9 HB9 HU hq
              go_wp2_with fail
              refine C23.out.mono ?_
              rintro e w11 ⟨rfl, hb11⟩
              have HB := hid (bstep' B1 (bstep' HB10.out hb11))
              clear hb11 HB10 C23 c0
              cases eb with
              | true =>
                obtain rfl := HE.out rfl
                clear HE HF HN HR HS hcf
                go_wp2_with fail
                refine (drawJoined_any a1 c1 z1 _ (HC.out _ HB.out).2).mono ?_
                rintro e w20 ⟨⟨v20, ys, x, y, rfl, ⟨⟨ja, jc, rfl, hrj⟩, hsj, hj4⟩, hxs, hys⟩, hb20⟩
                obtain ⟨J1, hJ1⟩ : ∃ b, (joinV (normOf false ys x) (normOf false ys y)).1 = b := ⟨_, rfl⟩
                obtain ⟨J2, hJ2⟩ : ∃ b, (joinV (normOf false ys x) (normOf false ys y)).2 = b := ⟨_, rfl⟩
                have CI := hid (fun W hw => iJoinedBy_any ja jc ys x y W (by omega) hsj (by omega) (by omega) (hrj.below (w' := W) hw))
                have CS := hid (fun W hw => sJoinedBy_any ja jc ys x y W (by omega) hsj (by omega) (by omega) (hrj.below (w' := W) hw))
                rw [hJ1, hJ2] at CI CS
                clear hrj hsj hJ1 hJ2
                go_wp2_with fail
                refine (CI.out _ (Below.refl _ _)).mono ?_
                rintro e w21 ⟨rfl, hb21⟩
                go_wp2_with fail
                refine (CS.out _ hb21).mono ?_
                rintro e w22 ⟨rfl, hb22⟩
                have HBE := hid (bstep' (bstep' (bstep' HB.out hb20) hb21) hb22)
                have e1 : (J1 == J1) = true := by cases J1 <;> rfl
                have e2 : (J2 == J2) = true := by cases J2 <;> rfl
                clear CI CS HB HC hb20 hb21 hb22
                go_wp2
                go_ret
                exact ⟨rfl, HBE.out⟩
              | false =>
                clear HE HF HN HR HS hcf
                go_wp2_with fail
                refine (drawJoined_any a1 c1 z1 _ (HC.out _ HB.out).2).mono ?_
                rintro e w20 ⟨⟨v20, ys, x, y, rfl, ⟨⟨ja, jc, rfl, hrj⟩, hsj, hj4⟩, hxs, hys⟩, hb20⟩
                obtain ⟨J1, hJ1⟩ : ∃ b, (joinV (normOf false ys x) (normOf false ys y)).1 = b := ⟨_, rfl⟩
                obtain ⟨J2, hJ2⟩ : ∃ b, (joinV (normOf false ys x) (normOf false ys y)).2 = b := ⟨_, rfl⟩
                have CI := hid (fun W hw => iJoinedBy_any ja jc ys x y W (by omega) hsj (by omega) (by omega) (hrj.below (w' := W) hw))
                have CS := hid (fun W hw => sJoinedBy_any ja jc ys x y W (by omega) hsj (by omega) (by omega) (hrj.below (w' := W) hw))
                rw [hJ1, hJ2] at CI CS
                clear hrj hsj hJ1 hJ2
                go_wp2_with fail
                refine (CI.out _ (Below.refl _ _)).mono ?_
                rintro e w21 ⟨rfl, hb21⟩
                go_wp2_with fail
                refine (CS.out _ hb21).mono ?_
                rintro e w22 ⟨rfl, hb22⟩
                have HBE := hid (bstep' (bstep' (bstep' HB.out hb20) hb21) hb22)
                have e1 : (J1 == J1) = true := by cases J1 <;> rfl
                have e2 : (J2 == J2) = true := by cases J2 <;> rfl
                clear CI CS HB HC hb20 hb21 hb22
                go_wp2
                go_ret
                exact ⟨rfl, HBE.out⟩
            · have HB := hid (bstep' B1 HB9.out)
              clear HB9 HT9 HU HF HN HR HS hcf
              go_wp2_with fail
              refine (drawJoined_any a1 c1 z1 _ (HC.out _ HB.out).2).mono ?_
              rintro e w20 ⟨⟨v20, ys, x, y, rfl, ⟨⟨ja, jc, rfl, hrj⟩, hsj, hj4⟩, hxs, hys⟩, hb20⟩
              obtain ⟨J1, hJ1⟩ : ∃ b, (joinV (normOf false ys x) (normOf false ys y)).1 = b := ⟨_, rfl⟩
              obtain ⟨J2, hJ2⟩ : ∃ b, (joinV (normOf false ys x) (normOf false ys y)).2 = b := ⟨_, rfl⟩
              have CI := hid (fun W hw => iJoinedBy_any ja jc ys x y W (by omega) hsj (by omega) (by omega) (hrj.below (w' := W) hw))
              have CS := hid (fun W hw => sJoinedBy_any ja jc ys x y W (by omega) hsj (by omega) (by omega) (hrj.below (w' := W) hw))
              rw [hJ1, hJ2] at CI CS
              clear hrj hsj hJ1 hJ2
              go_wp2_with fail
              refine (CI.out _ (Below.refl _ _)).mono ?_
              rintro e w21 ⟨rfl, hb21⟩
              go_wp2_with fail
              refine (CS.out _ hb21).mono ?_
              rintro e w22 ⟨rfl, hb22⟩
              have HBE := hid (bstep' (bstep' (bstep' HB.out hb20) hb21) hb22)
              have e1 : (J1 == J1) = true := by cases J1 <;> rfl
              have e2 : (J2 == J2) = true := by cases J2 <;> rfl
              clear CI CS HB HC hb20 hb21 hb22
              go_wp2
              go_ret
              exact ⟨rfl, HBE.out⟩
          | false =>
            clear HCF HLX
            have C22 := hid (iOnceBy_any a c xs s w81 (by omega) HS.out (by omega) (HR.out _ HB8.out))
            obtain ⟨os, hos⟩ : ∃ os, onceBy xs s = os := ⟨_, rfl⟩
            have hol := onceBy_len xs s
            have HU := hid (fun (k : Nat) (u : Tx) (hu : os[k]? = some u) => And.intro (show u ∈ onceBy xs s from hos ▸ List.mem_of_getElem? hu) (once_less (xs := xs) (s := s) (hos ▸ List.mem_of_getElem? hu) hs).2)
            rw [HF.out.2.2.2.2.2.2, hos] at C22
            rw [hos] at hol
            clear hos
            go_wp2_with fail
            refine C22.out.mono ?_
            rintro e w9 ⟨⟨v9, rfl, ho9⟩, hb9⟩
            obtain ⟨pa, pc, rfl, ht9⟩ := TRow.of_owned ho9 rfl
            have HT9 := hid ht9
            have HB9 := hid (bstep' HB8.out hb9)
            clear ho9 hb9 C22 ht9 HB8
            by_cases hpos : 0 < os.length
            · go_wp2_with fail
              refine (numberOf_any a1 c1 z1 _ (HC.out _ (bstep' B1 HB9.out)).2).mono ?_
              rintro e w10 ⟨⟨r, rfl, hr⟩, hb10⟩
              obtain ⟨pb, poff, rfl, hat⟩ := (HT9.out.below hb10).resolve_left (by intro e; subst e; simp at hpos)
              have HB10 := hid (bstep' HB9.out hb10)
              obtain ⟨u, hu⟩ : ∃ u, os[r % os.length]? = some u := ⟨_, List.getElem?_eq_getElem (Nat.mod_lt _ hpos)⟩
              have c0 := hat _ u hu
              obtain ⟨hum, huz⟩ := HU.out _ u hu
              obtain ⟨eu, em, eb, hev, hex⟩ := endV_is (last := false) (xs := xs) (s := Sb u)
              have C23 := hid (iNormalOf_any a c xs (Sb u) w10 (by omega) HS.out (by rw [Bt_size, Bt_Sb]; omega) (HR.out _ HB10.out))
              rw [hev] at C23
              have HE := hid (fun hb : eb = true => show eu = Sb t by obtain ⟨x, m, hx, hxe⟩ := hex hb; rw [hxe, conf_some hcf HN.out hum hx])
              obtain ⟨q, hq⟩ : ∃ q, q = r % os.length := ⟨_, rfl⟩
              have hql : q < os.length := by rw [hq]; exact Nat.mod_lt _ hpos
              have hrem : Int.tmod (r : Int) (os.length : Int) = (q : Int) := by rw [hq]; rfl
              rw [← hq] at c0
              clear hat hu hum hev hex hb10 HT9 HB9 HU hq
              go_wp2_with fail
              refine C23.out.mono ?_
              rintro e w11 ⟨rfl, hb11⟩
              have HB := hid (bstep' B1 (bstep' HB10.out hb11))
              clear hb11 HB10 C23 c0
              cases eb with
              | true =>
                obtain rfl := HE.out rfl
                clear HE HF HN HR HS hcf
                go_wp2_with fail
                refine (drawJoined_any a1 c1 z1 _ (HC.out _ HB.out).2).mono ?_
                rintro e w20 ⟨⟨v20, ys, x, y, rfl, ⟨⟨ja, jc, rfl, hrj⟩, hsj, hj4⟩, hxs, hys⟩, hb20⟩
                obtain ⟨J1, hJ1⟩ : ∃ b, (joinV (normOf false ys x) (normOf false ys y)).1 = b := ⟨_, rfl⟩
                obtain ⟨J2, hJ2⟩ : ∃ b, (joinV (normOf false ys x) (normOf false ys y)).2 = b := ⟨_, rfl⟩
                have CI := hid (fun W hw => iJoinedBy_any ja jc ys x y W (by omega) hsj (by omega) (by omega) (hrj.below (w' := W) hw))
                have CS := hid (fun W hw => sJoinedBy_any ja jc ys x y W (by omega) hsj (by omega) (by omega) (hrj.below (w' := W) hw))
                rw [hJ1, hJ2] at CI CS
                clear hrj hsj hJ1 hJ2
                go_wp2_with fail
                refine (CI.out _ (Below.refl _ _)).mono ?_
                rintro e w21 ⟨rfl, hb21⟩
                go_wp2_with fail
                refine (CS.out _ hb21).mono ?_
                rintro e w22 ⟨rfl, hb22⟩
                have HBE := hid (bstep' (bstep' (bstep' HB.out hb20) hb21) hb22)
                have e1 : (J1 == J1) = true := by cases J1 <;> rfl
                have e2 : (J2 == J2) = true := by cases J2 <;> rfl
                clear CI CS HB HC hb20 hb21 hb22
                go_wp2
                go_ret
                exact ⟨rfl, HBE.out⟩
              | false =>
                clear HE HF HN HR HS hcf
                go_wp2_with fail
                refine (drawJoined_any a1 c1 z1 _ (HC.out _ HB.out).2).mono ?_
                rintro e w20 ⟨⟨v20, ys, x, y, rfl, ⟨⟨ja, jc, rfl, hrj⟩, hsj, hj4⟩, hxs, hys⟩, hb20⟩
                obtain ⟨J1, hJ1⟩ : ∃ b, (joinV (normOf false ys x) (normOf false ys y)).1 = b := ⟨_, rfl⟩
                obtain ⟨J2, hJ2⟩ : ∃ b, (joinV (normOf false ys x) (normOf false ys y)).2 = b := ⟨_, rfl⟩
                have CI := hid (fun W hw => iJoinedBy_any ja jc ys x y W (by omega) hsj (by omega) (by omega) (hrj.below (w' := W) hw))
                have CS := hid (fun W hw => sJoinedBy_any ja jc ys x y W (by omega) hsj (by omega) (by omega) (hrj.below (w' := W) hw))
                rw [hJ1, hJ2] at CI CS
                clear hrj hsj hJ1 hJ2
                go_wp2_with fail
                refine (CI.out _ (Below.refl _ _)).mono ?_
                rintro e w21 ⟨rfl, hb21⟩
                go_wp2_with fail
                refine (CS.out _ hb21).mono ?_
                rintro e w22 ⟨rfl, hb22⟩
                have HBE := hid (bstep' (bstep' (bstep' HB.out hb20) hb21) hb22)
                have e1 : (J1 == J1) = true := by cases J1 <;> rfl
                have e2 : (J2 == J2) = true := by cases J2 <;> rfl
                clear CI CS HB HC hb20 hb21 hb22
                go_wp2
                go_ret
                exact ⟨rfl, HBE.out⟩
            · have HB := hid (bstep' B1 HB9.out)
              clear HB9 HT9 HU HF HN HR HS hcf
              go_wp2_with fail
              refine (drawJoined_any a1 c1 z1 _ (HC.out _ HB.out).2).mono ?_
              rintro e w20 ⟨⟨v20, ys, x, y, rfl, ⟨⟨ja, jc, rfl, hrj⟩, hsj, hj4⟩, hxs, hys⟩, hb20⟩
              obtain ⟨J1, hJ1⟩ : ∃ b, (joinV (normOf false ys x) (normOf false ys y)).1 = b := ⟨_, rfl⟩
              obtain ⟨J2, hJ2⟩ : ∃ b, (joinV (normOf false ys x) (normOf false ys y)).2 = b := ⟨_, rfl⟩
              have CI := hid (fun W hw => iJoinedBy_any ja jc ys x y W (by omega) hsj (by omega) (by omega) (hrj.below (w' := W) hw))
              have CS := hid (fun W hw => sJoinedBy_any ja jc ys x y W (by omega) hsj (by omega) (by omega) (hrj.below (w' := W) hw))
              rw [hJ1, hJ2] at CI CS
              clear hrj hsj hJ1 hJ2
              go_wp2_with fail
              refine (CI.out _ (Below.refl _ _)).mono ?_
              rintro e w21 ⟨rfl, hb21⟩
              go_wp2_with fail
              refine (CS.out _ hb21).mono ?_
              rintro e w22 ⟨rfl, hb22⟩
              have HBE := hid (bstep' (bstep' (bstep' HB.out hb20) hb21) hb22)
              have e1 : (J1 == J1) = true := by cases J1 <;> rfl
              have e2 : (J2 == J2) = true := by cases J2 <;> rfl
              clear CI CS HB HC hb20 hb21 hb22
              go_wp2
              go_ret
              exact ⟨rfl, HBE.out⟩
theorem lawRewrite (a0 a1 : Option Addr) (z0 z1 : List Int) (c0 c1 : Nat) (w : World) (h0 : Code w a0 z0) (h1 : Code w a1 z1) :
    Calls Try.prog 3 #[.slice a0 z0.length c0, .slice a1 z1.length c1] w fun e w' => e = .returned (.bool true) ∧ Below w.heap.size w w' := by
  by_cases hg : 1048576 < wrap64 ((z0.length : Int) + z1.length)
  · have hl0 := h0.1
    have hl1 := h1.1
    clear h0 h1
    go_enter Try.func3, Try.ntmps3
    go_wp2
    go_ret
    exact ⟨rfl, Below.refl _ _⟩
  · exact lawRewrite_go a0 a1 z0 z1 c0 c1 w h0 h1 hg
end Go.Proofs.Ytpjhmminbndgiaa
