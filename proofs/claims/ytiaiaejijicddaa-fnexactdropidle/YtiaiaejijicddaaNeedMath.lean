/- Which names' words matter ahead of flat steps, as plain lists: the model's way and the program's. -/
import Derived.Test.YtiaiaejijicddaaUseMath
import Derived.Test.YtiaiaejijicddaaK2
namespace Go.Proofs.Ytiaiaejijicddaa
open Go.RowKit
set_option linter.unusedVariables false
set_option linter.unusedSimpArgs false

def usesN (x : Flt) : List Nat := (usesF x).map Int.toNat
def dstN (x : Flt) : Nat := x.dst.toNat
/-- names: rising, and low -/
def Nm (l : List Nat) : Prop := l.Pairwise (· < ·) ∧ ∀ k ∈ l, k < 8
theorem Nm.nil : Nm [] := ⟨List.Pairwise.nil, by simp⟩
theorem Nm.put {l : List Nat} (h : Nm l) {k : Nat} (hk : k < 8) : Nm (putL l k) := ⟨putL_rising h.1 k, fun j hj => by rcases (putL_mem l k j).1 hj with rfl | hj; exact hk; exact h.2 j hj⟩
theorem Nm.len {l : List Nat} (h : Nm l) : l.length ≤ 8 := nodup_le (rising_nodup h.1) h.2
def putU (S O : List Nat) (v : Nat) : List Nat := if v ∈ S then O else putL O v
theorem Nm.putW {S O : List Nat} (h : Nm O) {k : Nat} (hk : k < 8) : Nm (putU S O k) := by unfold putU; split; exact h; exact h.put hk
def stepS (x : Flt) (S : List Nat) : List Nat := if setsB x.op then putL S (dstN x) else S
/-- the model: what is set so far, and what is needed so far -/
def finM (ks : List Nat) : List Flt → List Nat → List Nat → List Nat
  | [], S, O => ks.foldl (putU S) O
  | x :: r, S, O => finM ks r (stepS x S) ((usesN x).foldl (putU S) O)
theorem finM_at {ks : List Nat} {xs : List Flt} {j : Nat} {x : Flt} (h : xs[j]? = some x) (S O : List Nat) : finM ks (xs.drop j) S O = finM ks (xs.drop (j + 1)) (stepS x S) ((usesN x).foldl (putU S) O) := by
  obtain ⟨hj, rfl⟩ := List.getElem?_eq_some_iff.1 h
  rw [List.drop_eq_getElem_cons hj]
  rfl
/-- the program: from the end -/
def needP (ks : List Nat) : List Flt → List Nat
  | [] => setL ks
  | x :: r => (usesN x).foldl putL (if setsB x.op then (needP ks r).filter (fun k => decide (k ≠ dstN x)) else needP ks r)
def NeedQ (ks : List Nat) : List Flt → Nat → Prop
  | [], v => v ∈ ks
  | x :: r, v => v ∈ usesN x ∨ (NeedQ ks r v ∧ ¬ (setsB x.op = true ∧ v = dstN x))
theorem foldP (l : List Nat) (O : List Nat) (v : Nat) : v ∈ l.foldl putL O ↔ v ∈ O ∨ v ∈ l := by
  induction l generalizing O with
  | nil => simp
  | cons x r ih => rw [List.foldl_cons, ih, putL_mem]; simp only [List.mem_cons]; grind
theorem foldP_rising (l : List Nat) {O : List Nat} (h : O.Pairwise (· < ·)) : (l.foldl putL O).Pairwise (· < ·) := by
  induction l generalizing O with
  | nil => exact h
  | cons x r ih => exact ih (putL_rising h x)
theorem foldI (S : List Nat) (l : List Nat) (O : List Nat) (v : Nat) : v ∈ l.foldl (putU S) O ↔ v ∈ O ∨ (v ∉ S ∧ v ∈ l) := by
  induction l generalizing O with
  | nil => simp
  | cons x r ih =>
    rw [List.foldl_cons, ih]
    unfold putU
    split
    · simp only [List.mem_cons]; grind
    · rw [putL_mem]; simp only [List.mem_cons]; grind
theorem foldI_rising (S : List Nat) (l : List Nat) {O : List Nat} (h : O.Pairwise (· < ·)) : (l.foldl (putU S) O).Pairwise (· < ·) := by
  induction l generalizing O with
  | nil => exact h
  | cons x r ih => refine ih ?_; unfold putU; split; exact h; exact putL_rising h x
theorem needP_mem (ks : List Nat) (xs : List Flt) (v : Nat) : v ∈ needP ks xs ↔ NeedQ ks xs v := by
  induction xs with
  | nil => exact setL_mem ks v
  | cons x r ih =>
    unfold needP NeedQ
    rw [foldP]
    cases h : setsB x.op with
    | true => simp only [if_true, List.mem_filter, decide_eq_true_eq, ih]; grind
    | false => simp [ih]; grind
theorem needP_rising (ks : List Nat) (xs : List Flt) : (needP ks xs).Pairwise (· < ·) := by
  induction xs with
  | nil => exact setL_rising ks
  | cons x r ih =>
    unfold needP
    refine foldP_rising _ ?_
    split
    · exact ih.filter _
    · exact ih
theorem finM_mem (ks : List Nat) (xs : List Flt) (S O : List Nat) (v : Nat) : v ∈ finM ks xs S O ↔ v ∈ O ∨ (v ∉ S ∧ NeedQ ks xs v) := by
  induction xs generalizing S O with
  | nil => exact foldI S ks O v
  | cons x r ih =>
    unfold finM NeedQ
    rw [ih, foldI]
    unfold stepS
    cases h : setsB x.op with
    | true => simp only [if_true, putL_mem]; grind
    | false => simp; grind
theorem finM_rising (ks : List Nat) (xs : List Flt) (S : List Nat) {O : List Nat} (h : O.Pairwise (· < ·)) : (finM ks xs S O).Pairwise (· < ·) := by
  induction xs generalizing S O with
  | nil => exact foldI_rising S ks h
  | cons x r ih => exact ih _ (foldI_rising S _ h)
theorem need_same (ks : List Nat) (xs : List Flt) : finM ks xs [] [] = needP ks xs :=
  rising_unique (finM_rising ks xs [] List.Pairwise.nil) (needP_rising ks xs) fun v => by rw [finM_mem, needP_mem]; simp
theorem usesF_low {x : Flt} (h : goodFm 8 x = true) : ∀ v ∈ usesF x, 0 ≤ v ∧ v < 8 := by
  obtain ⟨p, d, t, a, b, n⟩ := x
  intro v hv
  have ho := good_op h
  simp only [goodFm, belB, zB, inB, usesF] at h hv ho
  by_cases h1 : p = 1
  · simp [h1] at hv
  by_cases h3 : p = 3
  · simp [h3] at h hv; omega
  by_cases h5 : p = 5
  · simp [h5] at h hv; omega
  by_cases h6 : p = 6
  · simp [h6] at h hv; omega
  · have h24 : p = 2 ∨ p = 4 := by omega
    simp [h1, h3, h5, h24] at h hv; omega
theorem dst_low {x : Flt} (h : goodFm 8 x = true) : 0 ≤ x.dst ∧ x.dst < 8 := by
  have h0 := goodFm_dst h
  obtain ⟨p, d, t, a, b, n⟩ := x
  have ho := good_op h
  simp only [goodFm, belB, zB, inB] at h h0 ho ⊢
  refine ⟨h0, ?_⟩
  by_cases h1 : p = 1
  · simp [h1] at h; omega
  by_cases h3 : p = 3
  · simp [h3] at h; omega
  by_cases h5 : p = 5
  · simp [h5] at h; omega
  by_cases h6 : p = 6
  · simp [h6] at h; omega
  · have h24 : p = 2 ∨ p = 4 := by omega
    simp [h1, h24] at h; omega
theorem nats_toNat {l : List Int} (h : ∀ v ∈ l, 0 ≤ v) : nats (l.map Int.toNat) = l := by
  induction l with
  | nil => rfl
  | cons x r ih =>
    have h0 := h x (by simp)
    show (((x.toNat : Nat) : Int) :: nats (r.map Int.toNat)) = x :: r
    rw [ih fun v hv => h v (List.mem_cons_of_mem _ hv)]
    congr 1
    omega
theorem usesN_nats {x : Flt} (h : goodFm 8 x = true) : nats (usesN x) = usesF x := nats_toNat fun v hv => (usesF_low h v hv).1
theorem usesN_low {x : Flt} (h : goodFm 8 x = true) : ∀ k ∈ usesN x, k < 8 := by
  intro k hk
  obtain ⟨v, hv, rfl⟩ := List.mem_map.1 hk
  have := usesF_low h v hv
  omega
theorem dstN_nat {x : Flt} (h : goodFm 8 x = true) : ((dstN x : Nat) : Int) = x.dst := by have := (dst_low h).1; unfold dstN; omega
theorem dstN_low {x : Flt} (h : goodFm 8 x = true) : dstN x < 8 := by have := dst_low h; unfold dstN; omega
end Go.Proofs.Ytiaiaejijicddaa
