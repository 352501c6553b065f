/- What NameOf of the program and of the model answer, at every section, and that the law on it is true. -/
import Derived.Test.YtjbmkkoggocemaaName1
namespace Go.Proofs.Ytjbmkkoggocemaa
open Go.RowKit
set_option linter.unusedVariables false
set_option linter.unusedSimpArgs false

theorem bstep {B : Nat} {a b c : World} (h : Below B a b) (hB : B ≤ a.heap.size) (k : Below b.heap.size b c) : Below B a c := h.trans (k.mono (Nat.le_trans hB h.size))

/-- a section's value -/
def secV (i : Int) (s : ByteArray) : Value := .agg #[.int .i64 i, .string s]
/-- the name of a section -/
def nameI (i : Int) (s : ByteArray) : Option ByteArray := if i = 0 ∧ s.size ≤ 200 then nameP s else none
theorem nameI_other {i : Int} {s : ByteArray} (h : i ≠ 0) : nameI i s = none := by unfold nameI; simp [h]
theorem nameI_long {i : Int} {s : ByteArray} (h : ¬ s.size ≤ 200) : nameI i s = none := by unfold nameI; simp [h]
theorem nameI_in {s : ByteArray} (h : s.size ≤ 200) : nameI 0 s = nameP s := by unfold nameI; simp [h]

/-- the program's NameOf -/
theorem iNameOf_any (i : Int) (s : ByteArray) (w : World) (hm : s.size ≤ 9223372036854775807) :
    Calls Try.prog 18 #[.agg #[.int .i64 i, .string s]] w fun e w' => e = .returned (nameV (nameI i s)) ∧ Below w.heap.size w w' := by
  by_cases hi : i = 0
  · subst hi
    by_cases h2 : s.size ≤ 200
    · rw [nameI_in h2]
      have ht := fun w => iTakeU_any s 0 w hm
      cases hr : resU s 0 with
      | none =>
        rw [hr] at ht
        rw [nameP_no hr]
        have HT : Hid (∀ w, Calls Try.prog 44 #[.string s, .int .i64 0] w fun e w' => e = .returned (takeV none) ∧ w' = w) := ht
        clear ht hr
        go_enter Try.func18, Try.ntmps18
        go_wp2_with (go_at_call 44; refine (HT.out _).mono ?_; rintro e w' ⟨rfl, hw⟩; subst w'; simp only [takeV])
        go_ret2
        exact ⟨rfl, (Below.refl _ w).alloc (Nat.le_refl _) _⟩
      | some x =>
        obtain ⟨n, e⟩ := x
        rw [hr] at ht
        have HT : Hid (∀ w, Calls Try.prog 44 #[.string s, .int .i64 0] w fun e' w' => e' = .returned (takeV (some (n, e))) ∧ w' = w) := ht
        obtain ⟨b0, b1, b2, b3, b4⟩ := resU_bounds hr
        by_cases hl : n ≤ (s.size : Int) - e
        · obtain ⟨m, rfl⟩ := Int.eq_ofNat_of_zero_le b0
          have hu2 := fun w => iUtf_any (s.extract e (e + m)) w (by simp; omega)
          cases hu : utf (s.extract e (e + m)) with
          | false =>
            rw [nameP_bad hr hl (by simpa using hu)]
            rw [hu] at hu2
            have HU : Hid (∀ w, Calls Try.prog 20 #[.string (s.extract e (e + m))] w fun e w' => e = .returned (.bool false) ∧ Below w.heap.size w w') := hu2
            clear ht hr hu2 hu
            go_enter Try.func18, Try.ntmps18
            go_wp2_with (first | (go_at_call 44; refine (HT.out _).mono ?_; rintro e w' ⟨rfl, hw⟩; subst w'; simp only [takeV]) | (go_at_call 20; refine (HU.out _).mono ?_; rintro e w1 ⟨rfl, hb⟩))
            go_ret2
            exact ⟨rfl, ((Below.refl _ w).alloc (Nat.le_refl _) _).trans (hb.mono (by simp))⟩
          | true =>
            rw [nameP_yes hr hl (by simpa using hu)]
            rw [hu] at hu2
            have HU : Hid (∀ w, Calls Try.prog 20 #[.string (s.extract e (e + m))] w fun e w' => e = .returned (.bool true) ∧ Below w.heap.size w w') := hu2
            clear ht hr hu2 hu
            go_enter Try.func18, Try.ntmps18
            go_wp2_with (first | (go_at_call 44; refine (HT.out _).mono ?_; rintro e w' ⟨rfl, hw⟩; subst w'; simp only [takeV]) | (go_at_call 20; refine (HU.out _).mono ?_; rintro e w1 ⟨rfl, hb⟩))
            go_ret2
            exact ⟨rfl, ((Below.refl _ w).alloc (Nat.le_refl _) _).trans (hb.mono (by simp))⟩
        · rw [nameP_long hr hl]
          clear ht hr
          go_enter Try.func18, Try.ntmps18
          go_wp2_with (go_at_call 44; refine (HT.out _).mono ?_; rintro e w' ⟨rfl, hw⟩; subst w'; simp only [takeV])
          go_ret2
          exact ⟨rfl, (Below.refl _ w).alloc (Nat.le_refl _) _⟩
    · rw [nameI_long h2]
      go_enter Try.func18, Try.ntmps18
      go_wp2
      go_ret2
      exact ⟨rfl, (Below.refl _ w).alloc (Nat.le_refl _) _⟩
  · rw [nameI_other hi]
    go_enter Try.func18, Try.ntmps18
    go_wp2
    go_ret2
    exact ⟨rfl, (Below.refl _ w).alloc (Nat.le_refl _) _⟩

/-- a section by itself is as it should be -/
def oneB (i : Int) (s : ByteArray) : Bool := inB 0 11 i && decide (s.size ≤ 200) && (i != 0 || (nameP s).isSome)

/-- the model's l2One -/
theorem sOne_any (i : Int) (s : ByteArray) (w : World) (hm : s.size ≤ 9223372036854775807) :
    Calls Try.prog 45 #[.agg #[.int .i64 i, .string s]] w fun e w' => e = .returned (.bool (oneB i s)) ∧ Below w.heap.size w w' := by
  by_cases hi : i = 0
  · subst hi
    have hn := fun w => sName_any s w hm
    have hin : inB 0 11 (0 : Int) = true := by decide
    cases hp : nameP s with
    | none =>
      rw [hp] at hn
      have HN : Hid (∀ w, Calls Try.prog 46 #[.string s] w fun e w' => e = .returned (nameV none) ∧ w' = w) := hn
      have ho : oneB 0 s = false := by unfold oneB; rw [hp]; simp
      rw [ho]
      clear hn hp ho
      go_enter Try.func45, Try.ntmps45
      go_wp2_with (go_at_call 46; refine (HN.out _).mono ?_; rintro e w' ⟨rfl, hw⟩; subst w'; simp only [nameV])
      go_ret
      exact ⟨rfl, (Below.refl _ w).alloc (Nat.le_refl _) _⟩
    | some t =>
      rw [hp] at hn
      have HN : Hid (∀ w, Calls Try.prog 46 #[.string s] w fun e w' => e = .returned (nameV (some t)) ∧ w' = w) := hn
      have ho : oneB 0 s = decide (s.size ≤ 200) := by unfold oneB; rw [hp, hin]; simp
      rw [ho]
      clear hn hp ho
      by_cases h2 : s.size ≤ 200
      all_goals
        go_enter Try.func45, Try.ntmps45
        go_wp2_with (first | (go_at_call 46; refine (HN.out _).mono ?_; rintro e w' ⟨rfl, hw⟩; subst w'; simp only [nameV]) | (go_at_call 51; refine (l1In_any _ _ _ _).mono ?_; rintro e w' ⟨rfl, hw⟩; subst w'))
        go_ret
        refine ⟨?_, (Below.refl _ w).alloc (Nat.le_refl _) _⟩
        simp [h2]
        omega
  · have ho : oneB i s = (inB 0 11 i && decide (s.size ≤ 200)) := by unfold oneB; have : (i != 0) = true := by simp [hi]
                                                                     rw [this]; simp
    rw [ho]
    clear ho
    cases hin : inB 0 11 i with
    | false =>
      go_enter Try.func45, Try.ntmps45
      go_wp2_with (go_at_call 51; refine (l1In_any _ _ _ _).mono ?_; rintro e w' ⟨rfl, hw⟩; subst w')
      go_ret
      exact ⟨rfl, (Below.refl _ w).alloc (Nat.le_refl _) _⟩
    | true =>
      by_cases h2 : s.size ≤ 200
      all_goals
        go_enter Try.func45, Try.ntmps45
        go_wp2_with (go_at_call 51; refine (l1In_any _ _ _ _).mono ?_; rintro e w' ⟨rfl, hw⟩; subst w')
        go_ret
        refine ⟨?_, (Below.refl _ w).alloc (Nat.le_refl _) _⟩
        simp [h2]
        omega

theorem nameI_one {i : Int} {s : ByteArray} (h : oneB i s = false) : nameI i s = none := by
  unfold nameI
  by_cases hc : i = 0 ∧ s.size ≤ 200
  · obtain ⟨rfl, h2⟩ := hc
    have : inB 0 11 (0 : Int) = true := by decide
    unfold oneB at h
    rw [this] at h
    simp [h2] at h ⊢
    exact h
  · rw [if_neg hc]
/-- the model's NameOf -/
theorem sNameOf_any (i : Int) (s : ByteArray) (w : World) (hm : s.size ≤ 9223372036854775807) :
    Calls Try.prog 19 #[.agg #[.int .i64 i, .string s]] w fun e w' => e = .returned (nameV (nameI i s)) ∧ Below w.heap.size w w' := by
  by_cases hi : i = 0
  · subst hi
    have ho := fun w => sOne_any 0 s w hm
    have hn := fun w => sName_any s w hm
    cases h1 : oneB 0 s with
    | false =>
      rw [h1] at ho
      rw [nameI_one h1]
      have HO : Hid (∀ w, Calls Try.prog 45 #[.agg #[.int .i64 0, .string s]] w fun e w' => e = .returned (.bool false) ∧ Below w.heap.size w w') := ho
      clear ho hn h1
      go_enter Try.func19, Try.ntmps19
      go_wp2_with (go_at_call 45; refine (HO.out _).mono ?_; rintro e w1 ⟨rfl, hb⟩)
      go_ret2
      exact ⟨rfl, ((Below.refl _ w).alloc (Nat.le_refl _) _).trans (hb.mono (by simp))⟩
    | true =>
      rw [h1] at ho
      have h2 : s.size ≤ 200 := by unfold oneB at h1; simp at h1; exact h1.1.2
      rw [nameI_in h2]
      obtain ⟨v, hv⟩ : ∃ v, nameP s = v := ⟨_, rfl⟩
      rw [hv] at hn ⊢
      have HO : Hid (∀ w, Calls Try.prog 45 #[.agg #[.int .i64 0, .string s]] w fun e w' => e = .returned (.bool true) ∧ Below w.heap.size w w') := ho
      have HN : Hid (∀ w, Calls Try.prog 46 #[.string s] w fun e w' => e = .returned (nameV v) ∧ w' = w) := hn
      clear ho hn h1 hv
      cases v
      all_goals
        go_enter Try.func19, Try.ntmps19
        go_wp2_with fail
        refine (HO.out _).mono ?_
        rintro e w1 ⟨rfl, hb⟩
        have hc : w1.cell? ⟨w.heap.size, 1, none⟩ = some (.string s) := by rw [hb.cell (by simp)]; simp
        go_wp2_with (go_at_call 46; refine (HN.out _).mono ?_; rintro e w' ⟨rfl, hw⟩; subst w'; simp only [nameV])
        go_ret2
        exact ⟨rfl, ((Below.refl _ w).alloc (Nat.le_refl _) _).trans (hb.mono (by simp))⟩
  · rw [nameI_other hi]
    go_enter Try.func19, Try.ntmps19
    go_wp2
    go_ret2
    exact ⟨rfl, (Below.refl _ w).alloc (Nat.le_refl _) _⟩

/-- the laws' copy of a section -/
theorem toSection_any (i : Int) (s : ByteArray) (w : World) :
    Calls Try.prog 38 #[.agg #[.int .i64 i, .string s]] w fun e w' => e = .returned (.agg #[.int .i64 i, .string s]) ∧ Below w.heap.size w w' := by
  go_enter Try.func38, Try.ntmps38
  go_wp2
  refine bodyPost_ret (v := .agg #[.int .i64 i, .string s]) (by simp [results, Try.results38, go_sem]) rfl ⟨rfl, ?_⟩
  exact (((Below.refl _ w).alloc (Nat.le_refl _) _).alloc (by simp) _).alloc (by simp; omega) _

theorem szSection_any (i : Int) (s : ByteArray) (l : Int) (w : World) (hm : s.size ≤ 9223372036854775807) (hl : 0 ≤ l) (hl2 : l ≤ 1048576) :
    Calls Try.prog 37 #[.agg #[.int .i64 i, .string s], .int .i64 l] w fun e w' => e = .returned (.int .i64 (if l < s.size then -1 else l - s.size)) ∧ Below w.heap.size w w' := by
  by_cases h : l < s.size
  all_goals
    go_enter Try.func37, Try.ntmps37
    go_wp2
    go_ret
    exact ⟨rfl, (Below.refl _ w).alloc (Nat.le_refl _) _⟩

theorem lawNameOf (i : Int) (s : ByteArray) (w : World) (hm : s.size ≤ 9223372036854775807) : Calls Try.prog 11 #[.agg #[.int .i64 i, .string s]] w fun e w' => e = .returned (.bool true) ∧ Below w.heap.size w w' := by
  by_cases hs : (1048576 : Int) < s.size
  · have hsz := fun w => szSection_any i s 1048576 w hm (by decide) (by decide)
    rw [if_pos hs] at hsz
    have HZ : Hid (∀ w, Calls Try.prog 37 #[.agg #[.int .i64 i, .string s], .int .i64 1048576] w fun e w' => e = .returned (.int .i64 (-1)) ∧ Below w.heap.size w w') := hsz
    clear hsz
    go_enter Try.func11, Try.ntmps11
    go_wp2_with (go_at_call 37; refine (HZ.out _).mono ?_; rintro e w1 ⟨rfl, hb⟩)
    go_ret
    exact ⟨rfl, ((Below.refl _ w).alloc (Nat.le_refl _) _).trans (hb.mono (by simp))⟩
  · have hsz := fun w => szSection_any i s 1048576 w hm (by decide) (by decide)
    rw [if_neg hs] at hsz
    obtain ⟨r, hr, hr0⟩ : ∃ r : Int, 1048576 - (s.size : Int) = r ∧ 0 ≤ r := ⟨_, rfl, by omega⟩
    rw [hr] at hsz
    have HZ : Hid (∀ w, Calls Try.prog 37 #[.agg #[.int .i64 i, .string s], .int .i64 1048576] w fun e w' => e = .returned (.int .i64 r) ∧ Below w.heap.size w w') := hsz
    have h1 := fun w => iNameOf_any i s w hm
    have h2 := fun w => sNameOf_any i s w hm
    obtain ⟨v, hv⟩ : ∃ v, nameI i s = v := ⟨_, rfl⟩
    rw [hv] at h1 h2
    have H1 : Hid (∀ w, Calls Try.prog 18 #[.agg #[.int .i64 i, .string s]] w fun e w' => e = .returned (nameV v) ∧ Below w.heap.size w w') := h1
    have H2 : Hid (∀ w, Calls Try.prog 19 #[.agg #[.int .i64 i, .string s]] w fun e w' => e = .returned (nameV v) ∧ Below w.heap.size w w') := h2
    clear hsz h1 h2 hr hs hm hv
    have hcells : ∀ w1, Below (w.heap.size + 1) (w.alloc (.cells #[.int .i64 i, .string s] 49)) w1 → w1.cell? ⟨w.heap.size, 0, none⟩ = some (.int .i64 i) ∧ w1.cell? ⟨w.heap.size, 1, none⟩ = some (.string s) := by
      intro w1 hb
      constructor <;> (rw [hb.cell (by simp)]; simp)
    have HCE : Hid (∀ w1, Below (w.heap.size + 1) (w.alloc (.cells #[.int .i64 i, .string s] 49)) w1 → w1.cell? ⟨w.heap.size, 0, none⟩ = some (.int .i64 i) ∧ w1.cell? ⟨w.heap.size, 1, none⟩ = some (.string s)) := hcells
    clear hcells
    cases v
    all_goals
      go_enter Try.func11, Try.ntmps11
      go_wp2_with fail
      refine (HZ.out _).mono ?_
      rintro e w1 ⟨rfl, hb1⟩
      have B1 : Below (w.heap.size + 1) (w.alloc (.cells #[.int .i64 i, .string s] 49)) w1 := hb1.mono (by simp)
      obtain ⟨c1, c2⟩ := HCE.out w1 B1
      go_wp2_with fail
      refine (toSection_any _ _ _).mono ?_
      rintro e w2 ⟨rfl, hb2⟩
      go_wp2_with fail
      refine (H2.out _).mono ?_
      rintro e w3 ⟨rfl, hb3⟩
      simp only [nameV]
      have B2 := bstep B1 (by simp) hb2
      have B3 := bstep B2 (by simp) hb3
      obtain ⟨c5, c6⟩ := HCE.out w3 B3
      go_wp2_with fail
      refine (toSection_any _ _ _).mono ?_
      rintro e w4 ⟨rfl, hb4⟩
      go_wp2_with fail
      refine (H1.out _).mono ?_
      rintro e w5 ⟨rfl, hb5⟩
      simp only [nameV]
      have B4 := bstep B3 (by simp) hb4
      have B5 := bstep B4 (by simp) hb5
      go_wp2
      go_ret
      exact ⟨rfl, ((Below.refl _ w).alloc (Nat.le_refl _) _).trans (B5.mono (by omega))⟩
end Go.Proofs.Ytjbmkkoggocemaa
