/- Plain facts for the law on names: without custom sections all others are there; runes behind runes are runes. -/
import Derived.Test.YtjbmkkoggocemaaAt2
import Derived.Test.YtjbmkkoggocemaaDrop1
namespace Go.Proofs.Ytjbmkkoggocemaa
open Go
set_option linter.unusedVariables false
set_option linter.unusedSimpArgs false

theorem gf_drop {last : Int} {xs : List Sec} (h : goodFrom last xs = true) : goodFrom last (dropC xs) = true := by
  induction xs generalizing last with
  | nil => rfl
  | cons x r ih =>
    simp only [goodFrom, Bool.and_eq_true] at h
    by_cases h0 : x.1 = 0
    · rw [if_pos h0] at h
      have : dropC (x :: r) = dropC r := by simp [dropC, h0]
      rw [this]; exact ih h.2
    · rw [if_neg h0] at h
      have : dropC (x :: r) = x :: dropC r := by simp [dropC, h0]
      rw [this]
      simp only [goodFrom, Bool.and_eq_true]
      rw [if_neg h0]
      exact ⟨h.1, ih h.2⟩
theorem good_drop {xs : List Sec} (h : goodB xs = true) : goodB (dropC xs) = true := by
  obtain ⟨h1, h2⟩ := good_from h
  have := dropC_len xs
  unfold goodB
  rw [gf_drop h1]
  simp; omega
theorem at_drop {xs : List Sec} (h : goodB xs = true) (id : Int) (h1 : 1 ≤ id) : atP (dropC xs) id = atP xs id := by
  unfold atP
  rw [good_drop h, h]
  have : (dropC xs).find? (fun x => x.1 == id) = xs.find? (fun x => x.1 == id) := by
    unfold dropC
    rw [List.find?_filter]
    congr 1
    funext x
    by_cases hx : x.1 = id
    · simp [hx]; omega
    · simp [hx]
  rw [this]
theorem drop_ids {xs : List Sec} {k : Nat} {x : Sec} (h : (dropC xs)[k]? = some x) : x.1 ≠ 0 := by
  have := List.mem_of_getElem? h
  unfold dropC at this
  have := (List.mem_filter.1 this).2
  simpa using this
theorem name_utf {i : Int} {s t : ByteArray} (h : nameI i s = some t) : utf t = true := by
  unfold nameI at h
  by_cases h0 : i = 0 ∧ s.size ≤ 200
  · rw [if_pos h0] at h
    cases hr : resU s 0 with
    | none => rw [nameP_no hr] at h; cases h
    | some ne =>
      obtain ⟨n, e⟩ := ne
      by_cases hl : n ≤ (s.size : Int) - e
      · cases hu : utf (s.extract e (e + n.toNat)) with
        | false => rw [nameP_bad hr hl hu] at h; cases h
        | true =>
          rw [nameP_yes hr hl hu] at h
          injection h with h
          rw [← h]; exact hu
      · rw [nameP_long hr hl] at h; cases h
  · rw [if_neg h0] at h; cases h

theorem bt_left (a b : ByteArray) (q : Nat) (h : q < a.size) : bt (a ++ b) q = bt a q := by
  have h2 : q < (a ++ b).size := by rw [ByteArray.size_append]; omega
  rw [← bt_eq (a ++ b) q h2, ← bt_eq a q h]
  congr 1
  exact ByteArray.getElem_append_left h
theorem bt_right (a b : ByteArray) (q : Nat) (h : q < b.size) : bt (a ++ b) (a.size + q) = bt b q := by
  have h2 : a.size + q < (a ++ b).size := by rw [ByteArray.size_append]; omega
  rw [← bt_eq (a ++ b) _ h2, ← bt_eq b q h]
  congr 1
  rw [ByteArray.getElem_append_right (by omega)]
  congr 1
  omega
theorem go_left (a b : ByteArray) (q : Nat) (h : goesOn a q = true) : goesOn (a ++ b) q = true ∧ q < a.size := by
  unfold goesOn at h ⊢
  simp only [Bool.and_eq_true, decide_eq_true_eq] at h
  refine ⟨?_, h.1⟩
  rw [bt_left a b q h.1]
  simp only [Bool.and_eq_true, decide_eq_true_eq, ByteArray.size_append]
  exact ⟨by omega, h.2⟩
theorem go_right (a b : ByteArray) (q : Nat) : goesOn (a ++ b) (a.size + q) = goesOn b q := by
  unfold goesOn
  rw [ByteArray.size_append]
  by_cases h : q < b.size
  · rw [bt_right a b q h]
    congr 1
    rw [decide_eq_decide]
    omega
  · have h1 : decide (a.size + q < a.size + b.size) = false := by simp; omega
    have h2 : decide (q < b.size) = false := by simp; omega
    rw [h1, h2]; rfl
theorem dec_right (a b : ByteArray) (q : Nat) (hq : q < b.size) : Utf8.decode (a ++ b) (a.size + q) = Utf8.decode b q := by
  have e := bt_right a b
  have g := go_right a b
  have l : ∀ q, goesOn b q = true → q < b.size := fun q h => by unfold goesOn at h; simp only [Bool.and_eq_true, decide_eq_true_eq] at h; exact h.1
  rw [dec_eq (a ++ b), dec_eq b]
  simp only [Nat.add_assoc]
  rw [g (q + 1), g (q + 2), g (q + 3), e q hq]
  cases h1 : goesOn b (q + 1) with
  | false => simp
  | true =>
    rw [e (q + 1) (l _ h1)]
    cases h2 : goesOn b (q + 2) with
    | false => simp
    | true =>
      rw [e (q + 2) (l _ h2)]
      cases h3 : goesOn b (q + 3) with
      | false => simp
      | true => rw [e (q + 3) (l _ h3)]
theorem dec_left (a b : ByteArray) (p : Nat) (hp : p < a.size) (hb : badAt a p = false) : Utf8.decode (a ++ b) p = Utf8.decode a p ∧ p + wide a p ≤ a.size := by
  have e := bt_left a b
  have g := go_left a b
  unfold badAt at hb
  unfold wide
  have ha := dec_eq a p
  have hab := dec_eq (a ++ b) p
  have hlt := bt_lt a p
  rw [e p hp] at hab
  by_cases h1 : bt a p < 128
  · rw [if_pos h1] at ha hab
    rw [ha, hab]
    exact ⟨rfl, by simp; omega⟩
  · rw [if_neg h1] at ha hab
    by_cases h6 : bt a p / 32 = 6
    · have n6 : (bt a p / 32 == 6) = true := by simp [h6]
      have n14 : (bt a p / 16 == 14) = false := by simp; omega
      have n30 : (bt a p / 8 == 30) = false := by simp; omega
      rw [n6, n14, n30] at ha hab
      cases hg : goesOn a (p + 1) with
      | false => rw [hg] at ha; simp at ha; rw [ha] at hb; simp at hb
      | true =>
        obtain ⟨g1, l1⟩ := g _ hg
        rw [e _ l1, g1] at hab
        rw [hg] at ha
        simp only [Bool.and_self, if_true] at ha hab
        rw [ha, hab]
        refine ⟨rfl, ?_⟩
        split <;> simp <;> omega
    · have n6 : (bt a p / 32 == 6) = false := by simp [h6]
      rw [n6] at ha hab
      simp only [Bool.false_and] at ha hab
      by_cases h14 : bt a p / 16 = 14
      · have n14 : (bt a p / 16 == 14) = true := by simp [h14]
        have n30 : (bt a p / 8 == 30) = false := by simp; omega
        rw [n14, n30] at ha hab
        simp only [Bool.false_and, Bool.true_and, Bool.false_eq_true, if_false] at ha hab
        cases hg : goesOn a (p + 1) with
        | false => rw [hg] at ha; simp at ha; rw [ha] at hb; simp at hb
        | true =>
          cases hg2 : goesOn a (p + 2) with
          | false => rw [hg, hg2] at ha; simp at ha; rw [ha] at hb; simp at hb
          | true =>
            obtain ⟨g1, l1⟩ := g _ hg
            obtain ⟨g2, l2⟩ := g _ hg2
            rw [e _ l1, e _ l2, g1, g2] at hab
            rw [hg, hg2] at ha
            simp only [Bool.and_self, if_true] at ha hab
            rw [ha, hab]
            refine ⟨rfl, ?_⟩
            split <;> simp <;> omega
      · have n14 : (bt a p / 16 == 14) = false := by simp [h14]
        rw [n14] at ha hab
        simp only [Bool.false_and, Bool.false_eq_true, if_false] at ha hab
        by_cases h30 : bt a p / 8 = 30
        · have n30 : (bt a p / 8 == 30) = true := by simp [h30]
          rw [n30] at ha hab
          simp only [Bool.true_and] at ha hab
          cases hg : goesOn a (p + 1) with
          | false => rw [hg] at ha; simp at ha; rw [ha] at hb; simp at hb
          | true =>
            cases hg2 : goesOn a (p + 2) with
            | false => rw [hg, hg2] at ha; simp at ha; rw [ha] at hb; simp at hb
            | true =>
              cases hg3 : goesOn a (p + 3) with
              | false => rw [hg, hg2, hg3] at ha; simp at ha; rw [ha] at hb; simp at hb
              | true =>
                obtain ⟨g1, l1⟩ := g _ hg
                obtain ⟨g2, l2⟩ := g _ hg2
                obtain ⟨g3, l3⟩ := g _ hg3
                rw [e _ l1, e _ l2, e _ l3, g1, g2, g3] at hab
                rw [hg, hg2, hg3] at ha
                simp only [Bool.and_self, if_true] at ha hab
                rw [ha, hab]
                refine ⟨rfl, ?_⟩
                split <;> simp <;> omega
        · have n30 : (bt a p / 8 == 30) = false := by simp [h30]
          rw [n30] at ha
          simp at ha
          rw [ha] at hb
          simp at hb
theorem utf_right (a b : ByteArray) : ∀ (F G q : Nat), b.size - q ≤ F → b.size - q ≤ G → utfFrom (a ++ b) F (a.size + q) = utfFrom b G q := by
  intro F
  induction F with
  | zero =>
    intro G q h1 h2
    rw [utfFrom_end b G q (by omega)]
    rfl
  | succ F ih =>
    intro G q h1 h2
    by_cases hq : q < b.size
    · obtain ⟨G', rfl⟩ : ∃ G', G = G' + 1 := ⟨G - 1, by omega⟩
      have hd := dec_right a b q hq
      have hbb : badAt (a ++ b) (a.size + q) = badAt b q := by unfold badAt; rw [hd]
      have hww : wide (a ++ b) (a.size + q) = wide b q := by unfold wide; rw [hd]
      have hq' : a.size + q < (a ++ b).size := by rw [ByteArray.size_append]; omega
      cases hb : badAt b q with
      | true => rw [utfFrom_bad _ _ _ hq' (by rw [hbb]; exact hb), utfFrom_bad _ _ _ hq hb]
      | false =>
        rw [utfFrom_good _ _ _ hq' (by rw [hbb]; exact hb), utfFrom_good _ _ _ hq hb, hww, Nat.add_assoc]
        have := wide_pos b q hq
        exact ih G' _ (by omega) (by omega)
    · rw [utfFrom_end b G q hq, utfFrom_end (a ++ b) _ _ (by rw [ByteArray.size_append]; omega)]
theorem utf_left (a b : ByteArray) : ∀ (f p F : Nat), a.size - p ≤ f → p ≤ a.size → (a ++ b).size - p ≤ F → utfFrom a f p = true → utfFrom (a ++ b) F p = utf b := by
  intro f
  induction f with
  | zero =>
    intro p F h1 h2 h3 h
    have : p = a.size + 0 := by omega
    rw [this]
    rw [ByteArray.size_append] at h3
    exact utf_right a b F b.size 0 (by omega) (by omega)
  | succ f ih =>
    intro p F h1 h2 h3 h
    by_cases hp : p < a.size
    · cases hb : badAt a p with
      | true => rw [utfFrom_bad _ _ _ hp hb] at h; cases h
      | false =>
        rw [utfFrom_good _ _ _ hp hb] at h
        obtain ⟨hd, hw⟩ := dec_left a b p hp hb
        have hbb : badAt (a ++ b) p = false := by unfold badAt at hb ⊢; rw [hd]; exact hb
        have hww : wide (a ++ b) p = wide a p := by unfold wide; rw [hd]
        have h4 := ByteArray.size_append (a := a) (b := b)
        obtain ⟨F', rfl⟩ : ∃ F', F = F' + 1 := ⟨F - 1, by omega⟩
        rw [utfFrom_good _ _ _ (by omega) hbb, hww]
        have := wide_pos a p hp
        exact ih _ _ (by omega) hw (by omega) h
    · have : p = a.size + 0 := by omega
      rw [this]
      rw [ByteArray.size_append] at h3
      exact utf_right a b F b.size 0 (by omega) (by omega)
/-- runes behind runes -/
theorem utf_append (a b : ByteArray) (h : utf a = true) : utf (a ++ b) = utf b := utf_left a b a.size 0 _ (by omega) (by omega) (by omega) h
end Go.Proofs.Ytjbmkkoggocemaa
