/- The law on numbers is true at every two lists of bytes. -/
import Derived.Test.YtgfoepioldhnhaaDrawn
import Derived.Test.YtgfoepioldhnhaaLebMath
import Derived.Test.YtgfoepioldhnhaaTakeSLaw
import Derived.Test.YtgfoepioldhnhaaCodeArg
import Derived.Deep.DeepCutAuto
namespace Go.Proofs.Ytgfoepioldhnhaa
open Go.RowKit
set_option linter.unusedVariables false

/-- the parts of what a reader answers -/
def tN : Option (Int × Nat) → Int
  | none => 0
  | some (n, _) => n
def tE : Option (Int × Nat) → Nat
  | none => 0
  | some (_, e) => e
def tO : Option (Int × Nat) → Bool
  | none => false
  | some _ => true
theorem takeV_eq (r : Option (Int × Nat)) : takeV r = .tuple #[.int .i64 (tN r), .int .i64 (tE r), .bool (tO r)] := by
  cases r with
  | none => rfl
  | some x => obtain ⟨n, e⟩ := x; rfl

/-- the bytes of a number, none where it does not fit -/
def pu (n : Int) : ByteArray := if inB 0 4294967295 n = true then ⟨(encU 4 n).toArray⟩ else ⟨#[]⟩
def ps (n : Int) : ByteArray := if inB (-2147483648) 2147483647 n = true then ⟨(encS 4 n).toArray⟩ else ⟨#[]⟩
theorem pu_size (n : Int) : (pu n).size ≤ 5 := by
  unfold pu; split
  · rw [ByteArray.size_mk']; have := encU_len_le 4 n; simpa using this
  · simp [ByteArray.size_mk']
theorem ps_size (n : Int) : (ps n).size ≤ 5 := by
  unfold ps; split
  · rw [ByteArray.size_mk']; have := encS_len_le 4 n; simpa using this
  · simp [ByteArray.size_mk']

theorem iPutU_all (n : Int) (w : World) : Calls Try.prog 16 #[.int .i64 n] w fun e w' => e = .returned (.tuple #[.string (pu n), .bool (inB 0 4294967295 n)]) ∧ Below w.heap.size w w' := by
  cases h : inB 0 4294967295 n with
  | false => refine (iPutU_no n w h).mono ?_; rintro e w' ⟨rfl, rfl⟩; exact ⟨by simp [pu, h], Below.refl _ _⟩
  | true => refine (iPutU_yes n w h).mono ?_; rintro e w' ⟨rfl, hb⟩; exact ⟨by simp [pu, h], hb⟩
theorem sPutU_all (n : Int) (w : World) : Calls Try.prog 17 #[.int .i64 n] w fun e w' => e = .returned (.tuple #[.string (pu n), .bool (inB 0 4294967295 n)]) ∧ Below w.heap.size w w' := by
  cases h : inB 0 4294967295 n with
  | false => refine (sPutU_no n w h).mono ?_; rintro e w' ⟨rfl, rfl⟩; exact ⟨by simp [pu, h], Below.refl _ _⟩
  | true => refine (sPutU_yes n w h).mono ?_; rintro e w' ⟨rfl, hb⟩; exact ⟨by simp [pu, h], hb⟩
theorem iLenU_all (n : Int) (w : World) : Calls Try.prog 18 #[.int .i64 n] w fun e w' => e = .returned (.tuple #[.int .i64 (pu n).size, .bool (inB 0 4294967295 n)]) ∧ w' = w := by
  cases h : inB 0 4294967295 n with
  | false => refine (iLenU_no n w h).mono ?_; rintro e w' ⟨rfl, rfl⟩; exact ⟨by simp [pu, h, ByteArray.size_mk'], rfl⟩
  | true => refine (iLenU_yes n w h).mono ?_; rintro e w' ⟨rfl, rfl⟩; exact ⟨by simp [pu, h, ByteArray.size_mk'], rfl⟩
theorem iPutS_all (n : Int) (w : World) : Calls Try.prog 22 #[.int .i64 n] w fun e w' => e = .returned (.tuple #[.string (ps n), .bool (inB (-2147483648) 2147483647 n)]) ∧ Below w.heap.size w w' := by
  cases h : inB (-2147483648) 2147483647 n with
  | false => refine (iPutS_no n w h).mono ?_; rintro e w' ⟨rfl, rfl⟩; exact ⟨by simp [ps, h], Below.refl _ _⟩
  | true => refine (iPutS_yes n w h).mono ?_; rintro e w' ⟨rfl, hb⟩; exact ⟨by simp [ps, h], hb⟩
theorem sPutS_all (n : Int) (w : World) : Calls Try.prog 23 #[.int .i64 n] w fun e w' => e = .returned (.tuple #[.string (ps n), .bool (inB (-2147483648) 2147483647 n)]) ∧ Below w.heap.size w w' := by
  cases h : inB (-2147483648) 2147483647 n with
  | false => refine (sPutS_no n w h).mono ?_; rintro e w' ⟨rfl, rfl⟩; exact ⟨by simp [ps, h], Below.refl _ _⟩
  | true => refine (sPutS_yes n w h).mono ?_; rintro e w' ⟨rfl, hb⟩; exact ⟨by simp [ps, h], hb⟩
theorem iLenS_all (n : Int) (w : World) : Calls Try.prog 24 #[.int .i64 n] w fun e w' => e = .returned (.tuple #[.int .i64 (ps n).size, .bool (inB (-2147483648) 2147483647 n)]) ∧ w' = w := by
  cases h : inB (-2147483648) 2147483647 n with
  | false => refine (iLenS_no n w h).mono ?_; rintro e w' ⟨rfl, rfl⟩; exact ⟨by simp [ps, h, ByteArray.size_mk'], rfl⟩
  | true => refine (iLenS_yes n w h).mono ?_; rintro e w' ⟨rfl, rfl⟩; exact ⟨by simp [ps, h, ByteArray.size_mk'], rfl⟩

theorem cut_eq (u : ByteArray) (a j : Nat) : (u.extract a (a + j)).toList = (u.data.toList.drop a).take j := by
  rw [ByteArray.toList_eq, ByteArray.data_extract]
  simp [List.take_drop]

theorem pu_facts (n : Int) (hu : inB 0 4294967295 n = true) :
    Hid (∀ w, Calls Try.prog 19 #[.string (pu n ++ ⟨#[120]⟩), .int .i64 0] w fun e w' => e = .returned (.tuple #[.int .i64 n, .int .i64 (pu n).size, .bool true]) ∧ w' = w) ∧
    Hid (∀ w, Calls Try.prog 20 #[.string (pu n)] w fun e w' => e = .returned (.bool true) ∧ w' = w) ∧
    (1 < (pu n).size → (n / 2 ^ (7 * (pu n).size - 7) == 0) = false) := by
  have hpu : pu n = ⟨(encU 4 n).toArray⟩ := by unfold pu; rw [if_pos hu]
  have hsz : (pu n).size = (encU 4 n).length := by rw [hpu, ByteArray.size_mk']; simp
  have hl := encU_len_bd n
  refine ⟨fun w => ?_, fun w => ?_, ?_⟩
  · have h := iTakeU_any (pu n ++ ⟨#[120]⟩) 0 w (by rw [ByteArray.size_append', hsz]; simp [ByteArray.size_mk']; omega)
    have e : resU (pu n ++ ⟨#[120]⟩) 0 = some (n, (pu n).size) := by rw [hsz, hpu]; exact resU_x n hu
    rw [e] at h
    exact h
  · have h := iLeast_any (pu n) w (by omega)
    have e : leastB (pu n) = true := by rw [hpu]; exact leastB_enc n hu
    rw [e] at h
    exact h
  · rw [hsz]
    intro h1
    have hb := encU_big n (inB_yes hu).1 h1
    have e2 : (2 : Int) ^ (7 * (encU 4 n).length - 7) = 128 ^ ((encU 4 n).length - 1) := by
      rw [show 7 * (encU 4 n).length - 7 = 7 * ((encU 4 n).length - 1) by omega, Int.pow_mul]; rfl
    rw [e2]
    have hp : (0 : Int) < 128 ^ ((encU 4 n).length - 1) := Int.pow_pos (by decide)
    have : 1 ≤ n / 128 ^ ((encU 4 n).length - 1) := (Int.le_ediv_iff_mul_le hp).2 (by omega)
    simp
    omega

theorem ps_facts (n : Int) (hu : inB (-2147483648) 2147483647 n = true) :
    Hid (∀ w, Calls Try.prog 25 #[.string (ps n ++ ⟨#[120]⟩), .int .i64 0] w fun e w' => e = .returned (.tuple #[.int .i64 n, .int .i64 (ps n).size, .bool true]) ∧ w' = w) := by
  have hps : ps n = ⟨(encS 4 n).toArray⟩ := by unfold ps; rw [if_pos hu]
  have hsz : (ps n).size = (encS 4 n).length := by rw [hps, ByteArray.size_mk']; simp
  have hl := encS_len_le 4 n
  intro w
  have h := iTakeS_any (ps n ++ ⟨#[120]⟩) 0 w (by rw [ByteArray.size_append', hsz]; simp [ByteArray.size_mk']; omega)
  have e : resS (ps n ++ ⟨#[120]⟩) 0 = some (n, (ps n).size) := by rw [hsz, hps]; exact resS_x n hu
  rw [e] at h
  exact h

set_option maxRecDepth 100000 in
set_option maxHeartbeats 1000000 in
theorem lawLeb_go (a0 a1 : Option Addr) (z0 z1 : List Int) (c0 c1 : Nat) (w : World) (h0 : Code w a0 z0) (h1 : Code w a1 z1) (hg : ¬ 1048576 < wrap64 ((z0.length : Int) + z1.length)) :
    Calls Try.prog 3 #[.slice a0 z0.length c0, .slice a1 z1.length c1] w fun e w' => e = .returned (.bool true) ∧ Below w.heap.size w w' := by
  have hl0 := h0.1
  have hl1 := h1.1
  go_enter Try.func3, Try.ntmps3
  go_wp2_with fail
  refine (drawPutU_any a0 z0 c0 _ h0).mono ?_
  rintro e w1 ⟨n, rfl, hb1⟩
  have hsz := pu_size n
  go_wp2_with fail
  refine (iPutU_all n _).mono ?_
  rintro e w2 ⟨rfl, hb2⟩
  go_wp2_with fail
  refine (sPutU_all n _).mono ?_
  rintro e w3 ⟨rfl, hb3⟩
  go_wp2_with fail
  refine (iLenU_all n _).mono ?_
  rintro e w4 ⟨rfl, hw4⟩
  subst w4
  have hB2 := hb1.trans (hb2.mono hb1.size)
  have hB3 := hB2.trans (hb3.mono hB2.size)
  clear hb1 hb2 hb3 hB2
  go_upto_if 84 with fail
  go_cut [6, 7, 8, 9, 10, 11, 12, 13, 14] (fun _ _ _ _ _ _ _ _ _ wx => Below w.heap.size w wx)
  case first =>
    cases hu : inB 0 4294967295 n with
    | false =>
      go_wp2
      go_meet
      exact hB3
    | true =>
      obtain ⟨HT, HB, hbig⟩ := pu_facts n hu
      go_wp2_with fail
      refine (HT.out _).mono ?_
      rintro e w5 ⟨rfl, hw5⟩
      subst w5
      go_wp2_with fail
      refine (HB.out _).mono ?_
      rintro e w6 ⟨rfl, hw6⟩
      subst w6
      go_wp2
      · exact absurd (show (n / 2 ^ (7 * (pu n).size - 7) == 0) = true by assumption) (by rw [hbig (by omega)]; simp)
      · go_meet
        exact hB3
      · go_meet
        exact hB3
  case rest =>
    have hB := hcut
    clear hcut hB3 hsz
    go_wp2_with fail
    refine (drawPutS_any a0 z0 c0 _ (h0.later hB)).mono ?_
    rintro e w1 ⟨m, rfl, hb1⟩
    have hsz := ps_size m
    go_wp2_with fail
    refine (iPutS_all m _).mono ?_
    rintro e w2 ⟨rfl, hb2⟩
    go_wp2_with fail
    refine (sPutS_all m _).mono ?_
    rintro e w3 ⟨rfl, hb3⟩
    go_wp2_with fail
    refine (iLenS_all m _).mono ?_
    rintro e w4 ⟨rfl, hw4⟩
    subst w4
    have hB1 := hB.trans (hb1.mono hB.size)
    have hB2 := hB1.trans (hb2.mono hB1.size)
    have hB3 := hB2.trans (hb3.mono hB2.size)
    clear hb1 hb2 hb3 hB2 hB1 hB
    go_upto_if 161 with fail
    go_cut [16, 17, 18, 19, 20, 21, 22, 23, 24] (fun _ _ _ _ _ _ _ _ _ wx => Below w.heap.size w wx)
    case first =>
      cases hu : inB (-2147483648) 2147483647 m with
      | false =>
        go_wp2
        go_meet
        exact hB3
      | true =>
        have HT := ps_facts m hu
        go_wp2_with fail
        refine (HT.out _).mono ?_
        rintro e w5 ⟨rfl, hw5⟩
        subst w5
        go_wp2
        go_meet
        exact hB3
    case rest =>
      have hB := hcut
      clear hcut hB3 hsz
      go_wp2_with fail
      refine (drawTakeU_any a1 z1 c1 _ (h1.later hB)).mono ?_
      rintro e wA ⟨u, x, rfl, hus, hbA⟩
      have hBA := hB.trans (hbA.mono hB.size)
      clear hbA hB
      obtain ⟨r, hr⟩ : ∃ r, resU u x = r := ⟨_, rfl⟩
      obtain ⟨r', hr'⟩ : ∃ r', resS u x = r' := ⟨_, rfl⟩
      have HI : Hid (∀ w, Calls Try.prog 19 #[.string u, .int .i64 x] w fun e w' => e = .returned (.tuple #[.int .i64 (tN r), .int .i64 (tE r), .bool (tO r)]) ∧ w' = w) := by
        intro w; have := iTakeU_any u x w (by omega); rwa [hr, takeV_eq] at this
      have HS : Hid (∀ w, Calls Try.prog 27 #[.string u, .int .i64 x] w fun e w' => e = .returned (.tuple #[.int .i64 (tN r), .int .i64 (tE r), .bool (tO r)]) ∧ w' = w) := by
        intro w; have := sTakeU_any u x w (by omega); rwa [hr, takeV_eq] at this
      have HI' : Hid (∀ w, Calls Try.prog 25 #[.string u, .int .i64 x] w fun e w' => e = .returned (.tuple #[.int .i64 (tN r'), .int .i64 (tE r'), .bool (tO r')]) ∧ w' = w) := by
        intro w; have := iTakeS_any u x w (by omega); rwa [hr', takeV_eq] at this
      have HS' : Hid (∀ w, Calls Try.prog 28 #[.string u, .int .i64 x] w fun e w' => e = .returned (.tuple #[.int .i64 (tN r'), .int .i64 (tE r'), .bool (tO r')]) ∧ w' = w) := by
        intro w; have := sTakeS_any u x w (by omega); rwa [hr', takeV_eq] at this
      have HR : Hid (resU u x = r) := hr
      clear hr hr'
      go_wp2_with fail
      refine (HI.out _).mono ?_
      rintro e w5 ⟨rfl, hw5⟩
      subst w5
      go_wp2_with fail
      refine (HS.out _).mono ?_
      rintro e w5 ⟨rfl, hw5⟩
      subst w5
      go_wp2_with fail
      refine (HI'.out _).mono ?_
      rintro e w5 ⟨rfl, hw5⟩
      subst w5
      go_wp2_with fail
      refine (HS'.out _).mono ?_
      rintro e w5 ⟨rfl, hw5⟩
      subst w5
      go_wp2_with fail
      refine (drawLeast_any a1 z1 c1 _ (h1.later hBA)).mono ?_
      rintro e wB ⟨v, rfl, hvs, hbB⟩
      have hBB := hBA.trans (hbB.mono hBA.size)
      clear hbB hBA HI HS HI' HS'
      go_wp2_with fail
      refine (iLeast_any v _ (by omega)).mono ?_
      rintro e w5 ⟨rfl, hw5⟩
      subst w5
      go_wp2_with fail
      refine (sLeast_any v _ (by omega)).mono ?_
      rintro e wC ⟨rfl, hbC⟩
      have hBC := hBB.trans (hbC.mono hBB.size)
      clear hbC hBB
      generalize leastB v = lb
      cases r with
      | none =>
        have hO : tO (none : Option (Int × Nat)) = false := rfl
        go_wp2
        go_ret
        exact ⟨rfl, hBC⟩
      | some ne =>
        obtain ⟨n2, e2⟩ := ne
        obtain ⟨a, j, hxa, hej, hau, hu1, hu, hm, hsv⟩ := pad_of_res u x n2 e2 HR.out
        subst hxa
        subst hej
        have hsub : ((a + j : Nat) : Int) - (a : Int) = j := by omega
        have HSV : Hid (sev j n2 = (u.data.toList.drop a).take j) := hsv
        clear hsv
        have hO : tO (some (n2, a + j)) = true := rfl
        have hN : tN (some (n2, a + j)) = n2 := rfl
        have hE : tE (some (n2, a + j)) = a + j := rfl
        have hsub2 : (a : Int) + (j : Int) - (a : Int) = j := by omega
        go_wp2_with fail
        refine (iPad_yes n2 j _ hu hm).mono ?_
        rintro e wD ⟨rfl, hbD⟩
        have hBD := hBC.trans (hbD.mono hBC.size)
        go_wp2
        go_ret
        refine ⟨ret_bool ?_, hBD⟩
        rw [HSV.out, cut_eq u a j]
        exact beq_self_eq_true _

set_option maxRecDepth 100000 in
theorem lawLeb (a0 a1 : Option Addr) (z0 z1 : List Int) (c0 c1 : Nat) (w : World) (h0 : Code w a0 z0) (h1 : Code w a1 z1) :
    Calls Try.prog 3 #[.slice a0 z0.length c0, .slice a1 z1.length c1] w fun e w' => e = .returned (.bool true) ∧ Below w.heap.size w w' := by
  by_cases hg : 1048576 < wrap64 ((z0.length : Int) + z1.length)
  · have hl0 := h0.1
    have hl1 := h1.1
    go_enter Try.func3, Try.ntmps3
    go_wp2
    go_ret
    exact ⟨rfl, Below.refl _ _⟩
  · exact lawLeb_go a0 a1 z0 z1 c0 c1 w h0 h1 hg
end Go.Proofs.Ytgfoepioldhnhaa
