/- The model's NeedsAhead. -/
import Derived.Test.YtiaiaejijicddaaNeedMath
import Derived.Test.YtiaiaejijicddaaUseS
namespace Go.Proofs.Ytiaiaejijicddaa
open Go.RowKit
set_option linter.unusedVariables false
set_option linter.unusedSimpArgs false
set_option maxRecDepth 100000

theorem hasB_nats (S : List Nat) (n : Nat) : hasB (nats S) (n : Int) = decide (n ∈ S) := by simp [hasB, nats_mem]
/-- the answer of NeedsAhead -/
def needL (xs : List Flt) (ks : List Int) : List Nat := if lowL xs && keepL ks then needP (ks.map Int.toNat) xs else []
theorem Nm.fold {S : List Nat} (l : List Nat) {O : List Nat} (h : Nm O) (hl : ∀ k ∈ l, k < 8) : Nm (l.foldl (putU S) O) := by
  induction l generalizing O with
  | nil => exact h
  | cons x r ih => exact ih (h.putW (hl x (by simp))) (fun k hk => hl k (List.mem_cons_of_mem _ hk))
theorem foldI_snoc {S O : List Nat} {l : List Nat} {j k : Nat} (h : l[j]? = some k) : (l.take (j + 1)).foldl (putU S) O = putU S ((l.take j).foldl (putU S) O) k := by
  rw [List.take_add_one, h, List.foldl_append]; rfl
theorem rowN_row {w : World} {B : Nat} {v : Value} {l : List Nat} (h : w.ownsRow B 3 1 v l.length (ints (nats l))) : ∃ a c, v = .slice a l.length c ∧ Row w a (nats l) := by
  obtain ⟨a, c, rfl⟩ := slice_of_owned h
  exact ⟨a, c, rfl, own_row (by rw [nats_length]; exact h)⟩
set_option maxHeartbeats 4000000 in
/-- what is so far needed, and one name more -/
theorem keepN_low {ks : List Int} (h : keepL ks = true) : nats (ks.map Int.toNat) = ks ∧ (∀ k ∈ ks.map Int.toNat, k < 8) ∧ ks.length ≤ 8 := by
  have hg := (keepL_iff ks).1 h
  have h0 : ∀ v ∈ ks, 0 ≤ v ∧ v < 8 := fun v hv => by
    obtain ⟨i, hi⟩ := List.mem_iff_getElem?.1 hv
    exact hg.1 i v hi
  have h1 : nats (ks.map Int.toNat) = ks := nats_toNat fun v hv => (h0 v hv).1
  have h2 : ∀ k ∈ ks.map Int.toNat, k < 8 := fun k hk => by
    obtain ⟨v, hv, rfl⟩ := List.mem_map.1 hk
    have := h0 v hv; omega
  refine ⟨h1, h2, ?_⟩
  have h3 : (ks.map Int.toNat).Pairwise (· < ·) := by
    have h4 := rising_of_steps ks hg.2
    rw [List.pairwise_map]
    exact h4.imp_of_mem fun {a b} ha hb hab => by have := h0 a ha; have := h0 b hb; omega
  have := Nm.len ⟨h3, h2⟩
  simpa using this
set_option maxHeartbeats 1000000 in
theorem sNeeds_any (a ka : Option Addr) (c kc : Nat) (xs : List Flt) (ks : List Int) (w : World) (hl : xs.length ≤ 9223372036854775807) (hk : ks.length ≤ 9223372036854775807) (h : FRow w a xs) (hK : Row w ka ks) :
    Calls Try.prog 20 #[.slice a xs.length c, .slice ka ks.length kc] w fun e w' => (∃ va vc, e = .returned (.tuple #[.slice va (needL xs ks).length vc, .bool (lowL xs && keepL ks)]) ∧ w'.ownsRow w.heap.size 3 1 (.slice va (needL xs ks).length vc) (needL xs ks).length (ints (nats (needL xs ks)))) ∧ Below w.heap.size w w' := by
  have hL := l14Low_any a c xs w hl h
  have hP := fun (W : World) (hb : Below w.heap.size w W) => l16Keep_any ka kc ks W hk (hK.below hb)
  have HF := hid h
  have HK := hid hK
  cases hlow : lowL xs with
  | false =>
    have HA : Hid (needL xs ks = []) := by show _ = _; simp [needL, hlow]
    rw [hlow] at hL
    have HL := hid hL
    clear hL hP hlow
    go_enter Try.func20, Try.ntmps20
    go_wp2_with (go_at_call 27; refine HL.out.mono ?_; rintro e w1 ⟨rfl, hb1⟩)
    go_ret2
    rw [HA.out]
    exact ⟨⟨none, 0, rfl, World.ownsRow_nil _ _ _ _⟩, hb1⟩
  | true =>
    rw [hlow] at hL
    have HL := hid hL
    clear hL
    cases hkeep : keepL ks with
    | false =>
      have HA : Hid (needL xs ks = []) := by show _ = _; simp [needL, hkeep]
      rw [hkeep] at hP
      have HP := hid hP
      clear hP hlow hkeep
      go_enter Try.func20, Try.ntmps20
      go_wp2_with (first | (go_at_call 27; refine HL.out.mono ?_; rintro e w1 ⟨rfl, hb1⟩) | (go_at_call 36; refine (HP.out _ hb1).mono ?_; rintro e w2 ⟨rfl, rfl⟩))
      go_ret2
      rw [HA.out]
      exact ⟨⟨none, 0, rfl, World.ownsRow_nil _ _ _ _⟩, hb1⟩
    | true =>
      rw [hkeep] at hP
      have HP := hid hP
      obtain ⟨hkn, hkl, hk8⟩ := keepN_low hkeep
      obtain ⟨kn, hkn2⟩ : ∃ kn, ks.map Int.toNat = kn := ⟨_, rfl⟩
      obtain ⟨R, hR⟩ : ∃ R, needL xs ks = R := ⟨_, rfl⟩
      have HR : Hid (finM kn xs [] [] = R) := by show _ = _; rw [need_same, ← hR, needL, hlow, hkeep, hkn2]; rfl
      have hl60 : xs.length ≤ 60 := by simp [lowL] at hlow; exact hlow.2
      have HG : Hid (allFm 8 xs = true) := by show _ = _; simp [lowL] at hlow; exact hlow.1
      rw [hkn2] at hkn hkl
      have HKN := hid (And.intro hkn hkl)
      rw [hR]
      clear hP hlow hkeep hkn2 hR hkn hkl
      go_enter Try.func20, Try.ntmps20
      go_upto_region 4 with (first | (go_at_call 27; refine HL.out.mono ?_; rintro e w1 ⟨rfl, hb1⟩) | (go_at_call 36; refine (HP.out _ hb1).mono ?_; rintro e w2 ⟨rfl, rfl⟩))
      have HB1 := hid hb1
      clear hb1
      go_wp2
      go_loopw [6, 7, 24] (fun t6 t7 t24 wr => ∃ (j : Nat) (S O : List Nat), t24 = .int .i64 j ∧ j ≤ xs.length ∧ Hid (wr.ownsRow w.heap.size 3 1 t6 S.length (ints (nats S))) ∧ Hid (wr.ownsRow w.heap.size 3 1 t7 O.length (ints (nats O))) ∧ Nm S ∧ Nm O ∧ Hid (finM kn (xs.drop j) S O = R) ∧ Hid (Below w.heap.size w wr)) (fun _ _ t24 _ => xs.length - (intOf t24).toNat)
      case atStart => exact ⟨0, [], [], rfl, by omega, World.ownsRow_nil _ _ _ _, World.ownsRow_nil _ _ _ _, Nm.nil, Nm.nil, HR.out, HB1.out⟩
      case round =>
        obtain ⟨j, S, O, rfl, hj, HS, HO, nS, nO, HE, HB⟩ := hrel
        clear HB1
        by_cases hlt : j < xs.length
        · obtain ⟨cb, coff, rfl, hcw, hcat⟩ := HF.out.at (by intro e; subst e; simp at hlt)
          obtain ⟨fp, fd, ft, fx, fy, fn, g0, g1, g2, g3, g4, g5, HXF⟩ := hcat wr HB.out j hlt
          have hgd := all_at HG.out HXF.out
          have HL9 := hid (l9Uses_any fp fd ft fx fy fn (wr.alloc (.cells #[.int .i64 fp, .int .i64 fd, .int .i64 ft, .int .i64 fx, .int .i64 fy, .int .i64 fn] 49)))
          have bF := below1 wr (.cells #[.int .i64 fp, .int .i64 fd, .int .i64 ft, .int .i64 fx, .int .i64 fy, .int .i64 fn] 49)
          have k0 : (wr.alloc (.cells #[.int .i64 fp, .int .i64 fd, .int .i64 ft, .int .i64 fx, .int .i64 fy, .int .i64 fn] 49)).cell? ⟨wr.heap.size, 0, none⟩ = some (.int .i64 fp) := by simp [go_sem]
          have k2 : (wr.alloc (.cells #[.int .i64 fp, .int .i64 fd, .int .i64 ft, .int .i64 fx, .int .i64 fy, .int .i64 fn] 49)).cell? ⟨wr.heap.size, 2, none⟩ = some (.int .i64 ft) := by simp [go_sem]
          have HBF := hid (bstep' HB.out bF)
          have HSF := hid (owns_below HS.out bF)
          have HOF := hid (owns_below HO.out bF)
          have HNX := hid (finM_at (ks := kn) HXF.out S O)
          have HUN : Hid (nats (usesN ⟨fp, fd, ft, fx, fy, fn⟩) = usesF ⟨fp, fd, ft, fx, fy, fn⟩) := usesN_nats hgd
          have HUL : Hid (∀ k ∈ usesN ⟨fp, fd, ft, fx, fy, fn⟩, k < 8) := usesN_low hgd
          have HD : Hid (((dstN ⟨fp, fd, ft, fx, fy, fn⟩ : Nat) : Int) = ft) := dstN_nat hgd
          have HDL : Hid (dstN ⟨fp, fd, ft, fx, fy, fn⟩ < 8) := dstN_low hgd
          have HSS : Hid (stepS ⟨fp, fd, ft, fx, fy, fn⟩ S = if setsB fp then putL S (dstN ⟨fp, fd, ft, fx, fy, fn⟩) else S) := rfl
          have hul : (usesN ⟨fp, fd, ft, fx, fy, fn⟩).length ≤ 2 := by rw [usesN, List.length_map]; exact usesF_len2 _
          obtain ⟨U, hUe⟩ : ∃ U, usesN ⟨fp, fd, ft, fx, fy, fn⟩ = U := ⟨_, rfl⟩
          obtain ⟨dn, hdn⟩ : ∃ dn, dstN ⟨fp, fd, ft, fx, fy, fn⟩ = dn := ⟨_, rfl⟩
          obtain ⟨S2, hS2⟩ : ∃ S2, stepS ⟨fp, fd, ft, fx, fy, fn⟩ S = S2 := ⟨_, rfl⟩
          rw [hUe] at HNX HUN HUL hul
          rw [hdn] at HD HDL HSS
          rw [hS2] at HNX HSS
          rw [← HUN.out, nats_length] at HL9
          have HE2 : Hid (finM kn (xs.drop (j + 1)) S2 (U.foldl (putU S) O) = R) := by show _ = _; rw [← HNX.out]; exact HE.out
          clear hcat bF hUe hdn hS2 hgd HXF HS HO HE HNX
          go_wp2_with (go_at_call 44; refine HL9.out.mono ?_; rintro e w5 ⟨ua, uc, rfl, ho5, hb5⟩)
          have HR5 : Hid (Row w5 ua (nats U)) := own_row (by rw [nats_length]; exact ho5)
          have HB5 := hid (bstep' HBF.out hb5)
          have HS5 := hid (owns_below HSF.out hb5)
          have HO5 := hid (owns_below HOF.out hb5)
          have k0 := cell_below k0 hb5
          have k2 := cell_below k2 hb5
          have HKC := hid (And.intro k0 k2)
          clear ho5 hb5 HL9 HBF g0 g1 g2 g3 g4 g5 HSF HOF k0 k2
          go_wp2
          go_loopw [7, 31] (fun t7 t31 wr => ∃ (m : Nat), t31 = .int .i64 m ∧ m ≤ U.length ∧ Hid (wr.ownsRow w.heap.size 3 1 t7 ((U.take m).foldl (putU S) O).length (ints (nats ((U.take m).foldl (putU S) O)))) ∧ Nm ((U.take m).foldl (putU S) O) ∧ Hid (Below w5.heap.size w5 wr)) (fun _ t31 _ => U.length - (intOf t31).toNat)
          case atStart => exact ⟨0, rfl, by omega, HO5.out, nO, Below.refl _ _⟩
          case round =>
            obtain ⟨m, rfl, hm, HOM, nOM, HBM⟩ := hrel
            clear HO5 nO
            by_cases hmu : m < U.length
            · obtain ⟨ub, uoff, rfl, hub, huat⟩ := HR5.out.at (by intro e; have := congrArg List.length e; rw [nats_length, List.length_nil] at this; omega)
              obtain ⟨u, uc1, HXU⟩ := huat wr HBM.out m (by rw [nats_length]; exact hmu)
              obtain ⟨un, hun, hun2⟩ := nats_get HXU.out
              subst hun
              have HFS := hid (foldI_snoc (S := S) (O := O) hun2)
              have hu8 := HUL.out un (List.mem_of_getElem? hun2)
              obtain ⟨OM, hOM⟩ : ∃ OM, (U.take m).foldl (putU S) O = OM := ⟨_, rfl⟩
              rw [hOM] at HOM nOM HFS
              obtain ⟨sa, sc, rfl, HSR⟩ := rowN_row (owns_below HS5.out HBM.out)
              have HH := hid (l1Has_any sa sc (nats S) (un : Int) wr (by rw [nats_length]; have := nS.len; omega) HSR)
              rw [hasB_nats] at HH
              have HPT := hid (l1Put_any _ OM un w.heap.size wr (by have := nOM.len; omega) (by omega) HOM.out (Nat.le_trans HB5.out.size HBM.out.size))
              have nO2 : Nm (putU S OM un) := nOM.putW hu8
              rw [nats_length] at HH
              clear huat hOM HXU hun2 HSR
              by_cases hin : un ∈ S
              · have HPE : Hid (putU S OM un = OM) := if_pos hin
                rw [decide_eq_true hin] at HH
                clear HPT
                go_wp2_with (go_at_call 45; refine HH.out.mono ?_; rintro e w' ⟨rfl, rfl⟩)
                go_roundw
                case rel => exact ⟨m + 1, by go_num, by omega, by show World.ownsRow _ _ _ _ _ _ _; rw [HFS.out, HPE.out]; exact HOM.out, by rw [HFS.out]; exact nO2, HBM.out⟩
                case measure => simp [intOf]; omega
              · have HPE : Hid (putU S OM un = putL OM un) := if_neg hin
                rw [decide_eq_false hin] at HH
                go_wp2_with (first | (go_at_call 45; refine HH.out.mono ?_; rintro e w' ⟨rfl, rfl⟩) | (go_at_call 46; refine HPT.out.mono ?_; rintro e w6 ⟨pa, pc, rfl, ho6, _, hb6⟩))
                go_roundw
                case rel => exact ⟨m + 1, by go_num, by omega, by show World.ownsRow _ _ _ _ _ _ _; rw [HFS.out, HPE.out]; exact ho6, by rw [HFS.out]; exact nO2, bstep' HBM.out hb6⟩
                case measure => simp [intOf]; omega
            · obtain rfl : m = U.length := by omega
              rw [List.take_of_length_le (Nat.le_refl _)] at HOM nOM
              obtain ⟨OM, hOM⟩ : ∃ OM, U.foldl (putU S) O = OM := ⟨_, rfl⟩
              rw [hOM] at HOM nOM HE2
              obtain ⟨k0, k2⟩ := HKC.out
              have k0 := cell_below k0 HBM.out
              have k2 := cell_below k2 HBM.out
              have HS6 := hid (owns_below HS5.out HBM.out)
              have HB6 := hid (bstep' HB5.out HBM.out)
              have hs9 := fun W => l9Sets_any fp W
              obtain ⟨sa, sc, rfl⟩ := slice_of_owned HS6.out
              have HPT : Hid (Calls Try.prog 46 #[.slice sa S.length sc, .int .i64 ft] wr fun e w' => PutAns wr w' w.heap.size (.slice sa S.length sc) S dn e) := by
                have h9 := l1Put_any _ S dn w.heap.size wr (by have := nS.len; omega) (by have := HDL.out; omega) HS6.out HB6.out.size
                rw [HD.out] at h9
                exact h9
              have nS2 : Nm (putL S dn) := nS.put HDL.out
              clear hOM HKC
              cases hs : setsB fp with
              | false =>
                rw [hs] at hs9
                have HS9 := hid hs9
                have HX2 : Hid (S2 = S) := by have := HSS.out; rw [hs] at this; exact this
                clear hs9 hs HSS HPT
                go_wp2_with (go_at_call 37; refine (HS9.out _).mono ?_; rintro e w' ⟨rfl, rfl⟩)
                go_roundw
                case rel => exact ⟨j + 1, S, OM, by go_num, by omega, HS6, HOM, nS, nOM, by rw [HX2.out] at HE2; exact HE2, HB6⟩
                case measure => simp [intOf]; omega
              | true =>
                rw [hs] at hs9
                have HS9 := hid hs9
                have HX2 : Hid (S2 = putL S dn) := by have := HSS.out; rw [hs] at this; exact this
                clear hs9 hs HSS
                go_wp2_with (first | (go_at_call 37; refine (HS9.out _).mono ?_; rintro e w' ⟨rfl, rfl⟩) | (go_at_call 46; refine HPT.out.mono ?_; rintro e w7 ⟨pa, pc, rfl, ho7, _, hb7⟩))
                go_roundw
                case rel => exact ⟨j + 1, putL S dn, OM, by go_num, by omega, ho7, owns_below HOM.out hb7, nS2, nOM, by rw [HX2.out] at HE2; exact HE2, bstep' HB6.out hb7⟩
                case measure => simp [intOf]; omega
        · obtain rfl : j = xs.length := by omega
          obtain ⟨V8, rfl⟩ : ∃ V8, V8 = wr := ⟨_, rfl⟩
          rw [List.drop_length] at HE
          have HE2 : Hid (kn.foldl (putU S) O = R) := HE.out
          have HKR : Hid (Row V8 ka (nats kn)) := by show Row _ _ _; rw [HKN.out.1]; exact HK.out.below HB.out
          have hkl2 : ks.length = kn.length := by rw [← HKN.out.1, nats_length]
          have HS6 := HS
          clear HE
          rw [hkl2] at hk hk8
          go_wp2
          rw [hkl2]
          go_loopw [7, 53] (fun t7 t53 wr => ∃ (m : Nat), t53 = .int .i64 m ∧ m ≤ kn.length ∧ Hid (wr.ownsRow w.heap.size 3 1 t7 ((kn.take m).foldl (putU S) O).length (ints (nats ((kn.take m).foldl (putU S) O)))) ∧ Nm ((kn.take m).foldl (putU S) O) ∧ Hid (Below V8.heap.size V8 wr)) (fun _ t53 _ => kn.length - (intOf t53).toNat)
          case atStart => exact ⟨0, rfl, by omega, HO.out, nO, Below.refl _ _⟩
          case round =>
            obtain ⟨m, rfl, hm, HOM, nOM, HBM⟩ := hrel
            clear HO nO
            by_cases hmu : m < kn.length
            · obtain ⟨ub, uoff, rfl, hub, huat⟩ := HKR.out.at (by intro e; have := congrArg List.length e; rw [nats_length, List.length_nil] at this; omega)
              obtain ⟨u, uc1, HXU⟩ := huat wr HBM.out m (by rw [nats_length]; exact hmu)
              obtain ⟨un, hun, hun2⟩ := nats_get HXU.out
              subst hun
              have HFS := hid (foldI_snoc (S := S) (O := O) hun2)
              have hu8 := HKN.out.2 un (List.mem_of_getElem? hun2)
              obtain ⟨OM, hOM⟩ : ∃ OM, (kn.take m).foldl (putU S) O = OM := ⟨_, rfl⟩
              rw [hOM] at HOM nOM HFS
              obtain ⟨sa, sc, rfl, HSR⟩ := rowN_row (owns_below HS6.out HBM.out)
              have HH := hid (l1Has_any sa sc (nats S) (un : Int) wr (by rw [nats_length]; have := nS.len; omega) HSR)
              rw [hasB_nats] at HH
              have HPT := hid (l1Put_any _ OM un w.heap.size wr (by have := nOM.len; omega) (by omega) HOM.out (Nat.le_trans HB.out.size HBM.out.size))
              have nO2 : Nm (putU S OM un) := nOM.putW hu8
              rw [nats_length] at HH
              clear huat hOM HXU hun2 HSR
              by_cases hin : un ∈ S
              · have HPE : Hid (putU S OM un = OM) := if_pos hin
                rw [decide_eq_true hin] at HH
                clear HPT
                go_wp2_with (go_at_call 45; refine HH.out.mono ?_; rintro e w' ⟨rfl, rfl⟩)
                go_roundw
                case rel => exact ⟨m + 1, by go_num, by omega, by show World.ownsRow _ _ _ _ _ _ _; rw [HFS.out, HPE.out]; exact HOM.out, by rw [HFS.out]; exact nO2, HBM.out⟩
                case measure => simp [intOf]; omega
              · have HPE : Hid (putU S OM un = putL OM un) := if_neg hin
                rw [decide_eq_false hin] at HH
                go_wp2_with (first | (go_at_call 45; refine HH.out.mono ?_; rintro e w' ⟨rfl, rfl⟩) | (go_at_call 46; refine HPT.out.mono ?_; rintro e w6 ⟨pa, pc, rfl, ho6, _, hb6⟩))
                go_roundw
                case rel => exact ⟨m + 1, by go_num, by omega, by show World.ownsRow _ _ _ _ _ _ _; rw [HFS.out, HPE.out]; exact ho6, by rw [HFS.out]; exact nO2, bstep' HBM.out hb6⟩
                case measure => simp [intOf]; omega
            · obtain rfl : m = kn.length := by omega
              rw [List.take_of_length_le (Nat.le_refl _), HE2.out] at HOM
              obtain ⟨ra, rc, rfl⟩ := slice_of_owned HOM.out
              go_wp2
              go_ret2
              exact ⟨⟨ra, rc, rfl, HOM.out⟩, bstep' HB.out HBM.out⟩
end Go.Proofs.Ytiaiaejijicddaa
