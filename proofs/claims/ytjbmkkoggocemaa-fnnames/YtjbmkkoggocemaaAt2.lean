/- What SectionAt of the program and of the model answer, and that the law on it is true. -/
import Derived.Test.YtjbmkkoggocemaaAt1
namespace Go.Proofs.Ytjbmkkoggocemaa
open Go.RowKit
set_option linter.unusedVariables false
set_option linter.unusedSimpArgs false

theorem gf_out {last id : Int} {xs : List Sec} (h : goodFrom last xs = true) (h1 : 1 ≤ id) (hl : id ≤ last) : xs.find? (fun x => x.1 == id) = none := by
  induction xs generalizing last with
  | nil => rfl
  | cons x r ih =>
    obtain ⟨i, s⟩ := x
    have hne : (i == id) = false := by
      simp [goodFrom] at h
      simp
      intro e
      rcases h.1.2 with h0 | h0 <;> omega
    rw [List.find?_cons]
    simp only [hne]
    by_cases h0 : i = 0
    · subst h0
      have : goodFrom last r = true := by simp [goodFrom] at h; exact h.2
      exact ih this hl
    · simp [goodFrom, h0] at h
      exact ih h.2 (by omega)
/-- what stands at the place, in good sections -/
theorem find_plc {last id : Int} {xs : List Sec} (h : goodFrom last xs = true) (h1 : 1 ≤ id) : xs.find? (fun x => x.1 == id) = if fnd xs id then xs[plc xs id]? else none := by
  induction xs generalizing last with
  | nil => simp [fnd, plc]
  | cons x r ih =>
    obtain ⟨i, s⟩ := x
    by_cases hge : id ≤ i
    · have hp : plc ((i, s) :: r) id = 0 := by unfold plc; rw [List.findIdx_cons]; simp [hge]
      have hf : fnd ((i, s) :: r) id = (i == id) := by unfold fnd; rw [hp]; rfl
      rw [hf, hp, List.find?_cons]
      by_cases he : i = id
      · subst he; simp
      · have : (i == id) = false := by simp [he]
        simp only [this]
        have h0 : i ≠ 0 := by omega
        simp [goodFrom, h0] at h
        exact gf_out h.2 h1 (by omega)
    · have hp : plc ((i, s) :: r) id = plc r id + 1 := by unfold plc; rw [List.findIdx_cons]; simp [hge]
      have hf : fnd ((i, s) :: r) id = fnd r id := by unfold fnd; rw [hp]; simp
      have hne : (i == id) = false := by simp; omega
      rw [hf, hp, List.find?_cons]
      simp only [hne]
      simp only [List.getElem?_cons_succ]
      simp [goodFrom] at h
      exact ih h.2

/-- the Body of a section -/
def atP (xs : List Sec) (id : Int) : Option ByteArray := if goodB xs && inB 1 11 id then (xs.find? (fun x => x.1 == id)).map (·.2) else none
theorem good_from {xs : List Sec} (h : goodB xs = true) : goodFrom 0 xs = true ∧ xs.length ≤ 8 := by
  unfold goodB at h
  simp at h
  exact ⟨h.2, h.1⟩

theorem hasPlace_any (id : Int) (w : World) : Calls Try.prog 40 #[.int .i64 id] w fun e w' => e = .returned (.bool (inB 1 11 id)) ∧ w' = w := by
  rw [← inB_and]
  by_cases h0 : 1 ≤ id <;> by_cases h1 : id ≤ 11
  all_goals
    go_enter Try.func40, Try.ntmps40
    go_wp2
    go_ret
    refine ⟨?_, rfl⟩
    simp [h0, h1]

set_option maxRecDepth 100000 in
/-- the program's SectionAt -/
theorem iAt_any (a : Option Addr) (c : Nat) (xs : List Sec) (id : Int) (w : World) (hl : xs.length ≤ 9223372036854775807) (h : SRow w a xs) :
    Calls Try.prog 16 #[.slice a xs.length c, .int .i64 id] w fun e w' => e = .returned (nameV (atP xs id)) ∧ Below w.heap.size w w' := by
  have hgd := fun w h => iGood_any a c xs w hl h
  cases hg : goodB xs with
  | false =>
    rw [hg] at hgd
    have hv : atP xs id = none := by unfold atP; rw [hg]; rfl
    rw [hv]
    go_enter Try.func16, Try.ntmps16
    go_wp2_with (go_at_call 26; refine (hgd _ h).mono ?_; rintro e w1 ⟨rfl, hb1⟩)
    go_ret2
    exact ⟨rfl, hb1⟩
  | true =>
    rw [hg] at hgd
    cases hin : inB 1 11 id with
    | false =>
      have hv : atP xs id = none := by unfold atP; rw [hin, Bool.and_false]; rfl
      rw [hv]
      go_enter Try.func16, Try.ntmps16
      go_wp2_with (first | (go_at_call 26; refine (hgd _ h).mono ?_; rintro e w1 ⟨rfl, hb1⟩) | (go_at_call 40; refine (hasPlace_any _ _).mono ?_; rintro e w' ⟨rfl, hw⟩; subst w'))
      go_ret2
      exact ⟨rfl, hb1⟩
    | true =>
      have hfp := find_plc (good_from hg).1 (inB_yes hin).1
      have hpl := fun w h => place_any a c xs id w hl h
      cases hf : fnd xs id with
      | false =>
        rw [hf] at hpl hfp
        have hv : atP xs id = none := by unfold atP; rw [hin, hg, hfp]; rfl
        rw [hv]
        go_enter Try.func16, Try.ntmps16
        go_wp2_with (first | (go_at_call 26; refine (hgd _ h).mono ?_; rintro e w1 ⟨rfl, hb1⟩) | (go_at_call 40; refine (hasPlace_any _ _).mono ?_; rintro e w' ⟨rfl, hw⟩; subst w') | (go_at_call 41; refine (hpl _ (h.below hb1)).mono ?_; rintro e w2 ⟨rfl, hb2⟩))
        go_ret2
        exact ⟨rfl, bstep hb1 (Nat.le_refl _) hb2⟩
      | true =>
        rw [hf] at hpl hfp
        obtain ⟨k, hk⟩ : ∃ k, plc xs id = k := ⟨_, rfl⟩
        rw [hk] at hpl hfp
        obtain ⟨⟨i0, s0⟩, hx0⟩ : ∃ x, xs[k]? = some x := by
          unfold fnd at hf
          rw [hk] at hf
          cases hx : xs[k]? with
          | none => rw [hx] at hf; cases hf
          | some x => exact ⟨x, rfl⟩
        have hkl : k < xs.length := (List.getElem?_eq_some_iff.1 hx0).1
        have hne : xs ≠ [] := by intro e; subst e; simp at hkl
        have hv : atP xs id = some s0 := by unfold atP; rw [hin, hg, hfp, if_pos rfl, hx0]; rfl
        rw [hv]
        obtain ⟨b, off, rfl, hat⟩ := h.at hne
        have HA : Hid (_) := hat
        have HX0 : Hid (xs[k]? = some (i0, s0)) := hx0
        clear hat hx0 hv hfp hk hf
        go_enter Try.func16, Try.ntmps16
        go_wp2_with fail
        refine (hgd _ h).mono ?_
        rintro e w1 ⟨rfl, hb1⟩
        go_wp2_with fail
        refine (hasPlace_any _ _).mono ?_
        rintro e w' ⟨rfl, hw⟩
        subst w'
        go_wp2_with fail
        refine (hpl _ (h.below hb1)).mono ?_
        rintro e w2 ⟨rfl, hb2⟩
        have B2 := bstep hb1 (Nat.le_refl _) hb2
        obtain ⟨i, s, c1, c2, hs, hbw, HE⟩ := HA.out w2 B2 k hkl
        obtain ⟨rfl, rfl⟩ : i0 = i ∧ s0 = s := by
          have := HX0.out.symm.trans HE.out
          simp at this
          exact this
        go_wp2
        go_ret2
        exact ⟨rfl, B2⟩

theorem find_here {xs : List Sec} {id : Int} {k : Nat} {s : ByteArray} (h : xs[k]? = some (id, s)) (hb : ∀ (j : Nat) (x : Sec), j < k → xs[j]? = some x → x.1 ≠ id) : xs.find? (fun x => x.1 == id) = some (id, s) := by
  obtain ⟨hk, hx⟩ := List.getElem?_eq_some_iff.1 h
  rw [List.find?_eq_some_iff_getElem]
  refine ⟨by simp, k, hk, hx, fun j hj => ?_⟩
  have := hb j xs[j] hj (by simp)
  simpa using this
theorem find_no {xs : List Sec} {id : Int} (hb : ∀ (j : Nat) (x : Sec), xs[j]? = some x → x.1 ≠ id) : xs.find? (fun x => x.1 == id) = none := by
  rw [List.find?_eq_none]
  intro x hx
  obtain ⟨j, hj, rfl⟩ := List.mem_iff_getElem.1 hx
  have := hb j xs[j] (by simp)
  simpa using this

set_option maxHeartbeats 1000000 in
set_option maxRecDepth 100000 in
/-- the model's SectionAt -/
theorem sAt_any (a : Option Addr) (c : Nat) (xs : List Sec) (id : Int) (w : World) (hl : xs.length ≤ 9223372036854775807) (h : SRow w a xs) :
    Calls Try.prog 34 #[.slice a xs.length c, .int .i64 id] w fun e w' => e = .returned (nameV (atP xs id)) ∧ Below w.heap.size w w' := by
  have hgd := fun w h => sGood_any a c xs w hl h
  cases hg : goodB xs with
  | false =>
    rw [hg] at hgd
    have hv : atP xs id = none := by unfold atP; rw [hg]; rfl
    rw [hv]
    go_enter Try.func34, Try.ntmps34
    go_wp2_with (go_at_call 24; refine (hgd _ h).mono ?_; rintro e w1 ⟨rfl, hb1⟩)
    go_ret2
    exact ⟨rfl, hb1⟩
  | true =>
    rw [hg] at hgd
    cases hin : inB 1 11 id with
    | false =>
      have hv : atP xs id = none := by unfold atP; rw [hin, Bool.and_false]; rfl
      rw [hv]
      go_enter Try.func34, Try.ntmps34
      go_wp2_with (first | (go_at_call 24; refine (hgd _ h).mono ?_; rintro e w1 ⟨rfl, hb1⟩) | (go_at_call 51; refine (l1In_any _ _ _ _).mono ?_; rintro e w' ⟨rfl, hw⟩; subst w'))
      go_ret2
      exact ⟨rfl, hb1⟩
    | true =>
      have hv : atP xs id = (xs.find? (fun x => x.1 == id)).map (·.2) := by unfold atP; rw [hin, hg]; rfl
      have HV : Hid (atP xs id = (xs.find? (fun x => x.1 == id)).map (·.2)) := hv
      clear hv
      have HGD : Hid (∀ w, SRow w a xs → Calls Try.prog 24 #[.slice a xs.length c] w fun e w' => e = .returned (.bool true) ∧ Below w.heap.size w w') := hgd
      have hin' := hin
      clear hg hgd
      by_cases hx : xs = []
      · subst hx
        go_enter Try.func34, Try.ntmps34
        go_wp2_with (first | (go_at_call 24; refine (HGD.out _ h).mono ?_; rintro e w1 ⟨rfl, hb1⟩) | (go_at_call 51; refine (l1In_any _ _ _ _).mono ?_; rintro e w' ⟨rfl, hw⟩; subst w'))
        go_loopw [18] (fun t wr => t = .int .i64 0 ∧ wr = w1) (fun t _ => 0)
        case atStart => exact ⟨rfl, rfl⟩
        case round =>
          obtain ⟨rfl, rfl⟩ := hrel
          go_wp2
          go_ret2
          exact ⟨by rw [HV.out]; rfl, hb1⟩
      · obtain ⟨b, off, rfl, hat⟩ := h.at hx
        have HA : Hid (_) := hat
        clear hat hx
        go_enter Try.func34, Try.ntmps34
        go_wp2_with (first | (go_at_call 24; refine (HGD.out _ h).mono ?_; rintro e w1 ⟨rfl, hb1⟩) | (go_at_call 51; refine (l1In_any _ _ _ _).mono ?_; rintro e w' ⟨rfl, hw⟩; subst w'))
        go_loopw [18] (fun t wr => ∃ (k : Nat), t = .int .i64 k ∧ k ≤ xs.length ∧ (∀ (j : Nat) (x : Sec), j < k → xs[j]? = some x → x.1 ≠ id) ∧ Below w.heap.size w wr) (fun t _ => xs.length - (intOf t).toNat)
        case atStart => exact ⟨0, rfl, by omega, by intro j x hj; omega, hb1⟩
        case round =>
          obtain ⟨k, rfl, hk, hbf, hB⟩ := hrel
          have HF : Hid (∀ (j : Nat) (x : Sec), j < k → xs[j]? = some x → x.1 ≠ id) := hbf
          clear hbf
          by_cases hlt : k < xs.length
          · obtain ⟨i, s, c1, c2, hs, hbw, HX⟩ := HA.out wr hB k hlt
            have hbr : b < wr.heap.size := Nat.lt_of_lt_of_le hbw hB.size
            have hBa : Below w.heap.size w (wr.alloc (.cells #[.int .i64 i, .string s] 31)) := hB.alloc hB.size _
            by_cases hi : i = id
            · subst hi
              have HR : Hid (atP xs i = some s) := by show _ = _; rw [HV.out, find_here HX.out HF.out]; rfl
              go_wp2
              go_ret2
              exact ⟨by rw [HR.out]; rfl, hBa⟩
            · go_wp2
              go_roundw
              case rel =>
                refine ⟨k + 1, by go_num, by omega, ?_, hBa⟩
                intro j x hj hx
                by_cases e : j = k
                · subst e; rw [HX.out] at hx; cases hx; exact hi
                · exact HF.out j x (by omega) hx
              case measure => simp [intOf]; omega
          · obtain rfl : k = xs.length := by omega
            have HR : Hid (atP xs id = none) := by
              show _ = _
              rw [HV.out, find_no (fun j x hx => HF.out j x (List.getElem?_eq_some_iff.1 hx).1 hx)]; rfl
            go_wp2
            go_ret2
            exact ⟨by rw [HR.out]; rfl, hB⟩
end Go.Proofs.Ytjbmkkoggocemaa
