/- Whether a graph is good: the model's test and the program's. -/
import Derived.Test.YtjnlhffmahfekaaDoorGraph1
import Derived.Test.YtjnlhffmahfekaaDoorGoodI
import Derived.Deep.RegionHeld
namespace Go.Proofs.YtjnlhffmahfekaaDoor
open Go.RowKit
set_option linter.unusedVariables false
set_option linter.unusedSimpArgs false
set_option maxRecDepth 100000

/-- one number of a list of Next is as it should be -/
def NxAt (n : Nat) (l : List Int) (i : Nat) (v : Int) : Prop := 0 ≤ v ∧ v < n ∧ ∀ j u, j + 1 = i → l[j]? = some u → u < v
theorem goodNx_of {n : Nat} {l : List Int} (h : ∀ (i : Nat) v, l[i]? = some v → NxAt n l i v) : GoodNx n l := ⟨fun i v hv => ⟨(h i v hv).1, (h i v hv).2.1⟩, fun i u v hu hv => (h (i + 1) v hv).2.2 i u rfl hu⟩
theorem goodNx_at {n : Nat} {l : List Int} (h : GoodNx n l) (i : Nat) (v : Int) (hv : l[i]? = some v) : NxAt n l i v := ⟨(h.1 i v hv).1, (h.1 i v hv).2, fun j u hj hu => h.2 j u v hu (by rw [hj]; exact hv)⟩
theorem bad_bool {G : Bool} {p : Prop} (h : G = true ↔ p) (hp : ¬ p) : false = G := by cases G with | false => rfl | true => exact absurd (h.1 rfl) hp
theorem allBel_iff {m : Nat} {t : List Int} : allBel m t = true ↔ ∀ (i : Nat) v, t[i]? = some v → 0 ≤ v ∧ v < m := by
  constructor
  · intro h i v hv
    have := all_at h hv
    simp only [belB, inB, decide_eq_true_eq] at this
    omega
  · intro h
    refine all_of fun j v hv => ?_
    have := h j v hv
    simp only [belB, inB, decide_eq_true_eq]
    omega
def Rises (l : List Int) : Prop := ∀ (i : Nat) u v, l[i]? = some u → l[i + 1]? = some v → u < v
set_option maxHeartbeats 1000000 in
theorem isRising_any (a : Option Addr) (c : Nat) (t : List Int) (w : World) (hl : t.length ≤ 9223372036854775807) (h : Row w a t) :
    Calls Tryd.prog 42 #[.slice a t.length c] w fun e w' => (∃ r : Bool, e = .returned (.bool r) ∧ (r = true ↔ Rises t)) ∧ Below w.heap.size w w' := by
  have H := hid h
  clear h
  go_enter Tryd.func42, Tryd.ntmps42
  go_wp2
  go_loopw [3] (fun t3 wr => ∃ (k : Nat), t3 = .int .i64 k ∧ 1 ≤ k ∧ (k ≤ t.length ∨ k = 1) ∧ (∀ (i : Nat) u v, i + 1 < k → t[i]? = some u → t[i + 1]? = some v → u < v) ∧ Below w.heap.size w wr) (fun t3 _ => t.length - (intOf t3).toNat)
  case atStart => exact ⟨1, rfl, by omega, by omega, by intro i u v hi; omega, Below.refl _ _⟩
  case round =>
    obtain ⟨k, rfl, hk1, hk, hbf, hB⟩ := hrel
    have HF := hid hbf
    clear hbf
    by_cases hlt : k < t.length
    · have hx : t ≠ [] := by intro e; subst e; simp at hlt
      obtain ⟨b, off, rfl, hbw, hat⟩ := H.out.at hx
      obtain ⟨v, c1, HV⟩ := hat wr hB k hlt
      obtain ⟨u, c2, HU⟩ := hat wr hB (k - 1) (by omega)
      have c3 : wr.cell? ⟨b, ((off : Int) + ((k : Int) - 1)).toNat, none⟩ = some (.int .i64 u) := by rw [show ((off : Int) + ((k : Int) - 1)).toNat = off + (k - 1) by omega]; exact c2
      clear hat hx
      by_cases huv : v ≤ u
      · have HE : Hid (¬ Rises t) := fun hr => by
          have := hr (k - 1) u v HU.out (by rw [show k - 1 + 1 = k by omega]; exact HV.out)
          omega
        go_wp2
        go_region
        all_goals
          go_wp2
          go_ret
          exact ⟨⟨_, rfl, by simp [HE.out]⟩, hB.drew⟩
      · go_wp2
        go_region
        all_goals
          go_wp2
          go_roundw
          case rel =>
            refine ⟨k + 1, by go_num, by omega, by omega, fun i y z hi hy hz => ?_, hB.drew⟩
            by_cases e : i + 1 = k
            · obtain rfl : i = k - 1 := by omega
              rw [e] at hz
              obtain rfl := Option.some.inj (HV.out.symm.trans hz)
              obtain rfl := Option.some.inj (HU.out.symm.trans hy)
              omega
            · exact HF.out i y z (by omega) hy hz
          case measure => simp [intOf]; omega
    · have HE : Hid (Rises t) := fun i u v hu hv => HF.out i u v (by have := (List.getElem?_eq_some_iff.1 hv).1; omega) hu hv
      go_wp2
      go_ret
      exact ⟨⟨_, rfl, by simp [HE.out]⟩, hB⟩
theorem nx_iff {n : Nat} {t : List Int} : GoodNx n t ↔ allBel n t = true ∧ Rises t := by
  rw [allBel_iff]; exact Iff.rfl
set_option maxHeartbeats 1000000 in
theorem goodG1_any (bx : Nat) (a : Option Addr) (c n : Nat) (t : List Int) (w : World) (hl : t.length ≤ 9223372036854775807) (h : Row w a t) (hc : w.cell? ⟨bx, 0, none⟩ = some (.int .i64 n)) :
    Calls Tryd.prog 40 #[.slice a t.length c, .pointer (some ⟨bx, 0, none⟩)] w fun e w' => (∃ r : Bool, e = .returned (.bool r) ∧ (r = false ↔ GoodNx n t)) ∧ Below w.heap.size w w' := by
  have H := hid h
  clear h
  cases hA : allBel n t with
  | false =>
    have HE : Hid (¬ GoodNx n t) := fun hg => by rw [(nx_iff.1 hg).1] at hA; cases hA
    have HA := hid (fun W hb => areBelow_any a c t n W hl (H.out.below hb))
    rw [hA] at HA
    clear hA
    go_enter Tryd.func40, Tryd.ntmps40
    go_wp2_with fail
    refine (HA.out _ (Below.refl _ _)).mono ?_
    rintro e w1 ⟨rfl, hb1⟩
    have HB := hid hb1
    clear hb1
    go_wp2
    go_ret
    exact ⟨⟨_, rfl, by simp [HE.out]⟩, HB.out⟩
  | true =>
    have HA := hid (fun W hb => areBelow_any a c t n W hl (H.out.below hb))
    rw [hA] at HA
    have HT := hid hA
    clear hA
    go_enter Tryd.func40, Tryd.ntmps40
    go_wp2_with fail
    refine (HA.out _ (Below.refl _ _)).mono ?_
    rintro e w1 ⟨rfl, hb1⟩
    have HB := hid hb1
    clear hb1
    go_wp2_with fail
    refine (isRising_any a c t _ hl (H.out.below HB.out)).mono ?_
    rintro e w2 ⟨⟨r, rfl, hr⟩, hb2⟩
    have HR := hid hr
    have HB2 := hid (bstep' HB.out hb2)
    clear hr hb2
    go_wp2
    go_ret
    refine ⟨⟨_, rfl, ?_⟩, HB2.out⟩
    rw [nx_iff]
    have := HR.out
    cases r <;> simp_all [HT.out]
set_option maxHeartbeats 2000000 in
/-- the library's IndexFunc over lists, with that closure -/
theorem indexG_any (a : Option Addr) (c n : Nat) (xs : List (List Int)) (bx : Nat) (w : World) (hl : xs.length ≤ 9223372036854775807) (h : LRow w a xs) (hc : w.cell? ⟨bx, 0, none⟩ = some (.int .i64 n)) :
    Calls Tryd.prog 56 #[.slice a xs.length c, .func (.func 40) #[] #[.pointer (some ⟨bx, 0, none⟩)]] w fun e w' => (∃ r : Int, e = .returned (.int .i64 r) ∧ (r < 0 ↔ ∀ (i : Nat) l, xs[i]? = some l → GoodNx n l)) ∧ Below w.heap.size w w' := by
  have H := hid (And.intro h hc)
  clear h hc
  go_enter Tryd.func56, Tryd.ntmps56
  go_wp2
  go_loopw [8] (fun t8 wr => ∃ (k : Nat), t8 = .int .i64 k ∧ k ≤ xs.length ∧ (∀ (j : Nat) v, j < k → xs[j]? = some v → GoodNx n v) ∧ Below w.heap.size w wr) (fun t8 _ => xs.length - (intOf t8).toNat)
  case atStart => exact ⟨0, rfl, by omega, by intro j x hj; omega, Below.refl _ _⟩
  case round =>
    obtain ⟨k, rfl, hk, hbf, hB⟩ := hrel
    have HF := hid hbf
    clear hbf
    by_cases hlt : k < xs.length
    · have hx : xs ≠ [] := by intro e; subst e; simp at hlt
      obtain ⟨b, off, rfl, hbw, hat⟩ := H.out.1.at hx
      obtain ⟨t, ta, tc, c0, l1, HR, HX⟩ := hat wr hB k hlt
      clear hat hx
      have HC := hid (goodG1_any bx ta tc n t wr l1 (HR.out.below hB) (cell_below H.out.2 hB))
      go_wp2_with fail
      refine HC.out.mono ?_
      rintro e w1 ⟨⟨r, rfl, hr⟩, hb1⟩
      cases r with
      | true =>
        have HI : Hid (¬ ∀ (i : Nat) l, xs[i]? = some l → GoodNx n l) := fun ha => by have := hr.2 (ha k t HX.out); cases this
        clear hr
        go_wp2
        go_ret
        exact ⟨⟨_, rfl, ⟨fun h => by omega, fun h => absurd h HI.out⟩⟩, bstep' hB hb1⟩
      | false =>
        have HI : Hid (∀ (j : Nat) v, j < k + 1 → xs[j]? = some v → GoodNx n v) := by
          intro j u hj hu
          by_cases e : j = k
          · subst e; rw [HX.out] at hu; cases hu; exact hr.1 rfl
          · exact HF.out j u (by omega) hu
        clear hr
        go_wp2
        go_roundw
        case rel => exact ⟨k + 1, by go_num, by omega, HI.out, bstep' hB hb1⟩
        case measure => simp [intOf]; omega
    · obtain rfl : k = xs.length := by omega
      have HI : Hid (∀ (i : Nat) l, xs[i]? = some l → GoodNx n l) := fun j v hv => HF.out j v (List.getElem?_eq_some_iff.1 hv).1 hv
      go_wp2
      go_ret
      exact ⟨⟨_, rfl, ⟨fun _ => HI.out, fun _ => by decide⟩⟩, hB⟩
theorem containsG_any (a : Option Addr) (c n : Nat) (xs : List (List Int)) (bx : Nat) (w : World) (hl : xs.length ≤ 9223372036854775807) (h : LRow w a xs) (hc : w.cell? ⟨bx, 0, none⟩ = some (.int .i64 n)) :
    Calls Tryd.prog 39 #[.slice a xs.length c, .func (.func 40) #[] #[.pointer (some ⟨bx, 0, none⟩)]] w fun e w' => (∃ r : Bool, e = .returned (.bool r) ∧ (r = false ↔ ∀ (i : Nat) l, xs[i]? = some l → GoodNx n l)) ∧ Below w.heap.size w w' := by
  have H := hid (And.intro h hc)
  clear h hc
  go_enter Tryd.func39, Tryd.ntmps39
  go_wp2_with fail
  refine (indexG_any a c n xs bx _ hl H.out.1 H.out.2).mono ?_
  rintro e w1 ⟨⟨r, rfl, hr⟩, hb1⟩
  have HR := hid hr
  clear hr
  go_wp2
  go_ret
  refine ⟨⟨_, rfl, ?_⟩, hb1⟩
  rw [← HR.out]
  simp
set_option maxHeartbeats 2000000 in
/-- the program's test on a graph -/
theorem iGood_any (a : Option Addr) (c : Nat) (xs : List (List Int)) (G : Bool) (w : World) (hl : xs.length ≤ 9223372036854775807) (h : LRow w a xs) (hG : G = true ↔ GoodG xs) :
    Calls Tryd.prog 20 #[.agg #[.slice a xs.length c]] w fun e w' => e = .returned (.bool G) ∧ Below w.heap.size w w' := by
  have H := hid h
  have HG := hid hG
  clear h hG
  by_cases h0 : xs.length = 0
  · have HE := hid (bad_bool HG.out (fun hg => by have := hg.2.1; omega))
    go_enter Tryd.func20, Tryd.ntmps20
    go_wp2
    go_ret
    exact ⟨ret_bool HE.out, below2 w _ _⟩
  · by_cases h12 : 12 < xs.length
    · have HE := hid (bad_bool HG.out (fun hg => by have := hg.2.2; omega))
      go_enter Tryd.func20, Tryd.ntmps20
      go_wp2
      go_ret
      exact ⟨ret_bool HE.out, below2 w _ _⟩
    · have HC := hid (fun W hb hc => containsG_any a c xs.length xs (w.heap.size + 1) W hl (H.out.below hb) hc)
      have h0' : ¬ (xs.length : Int) = 0 := by omega
      have h12' : ¬ (12 : Int) < xs.length := by omega
      go_enter Tryd.func20, Tryd.ntmps20
      go_wp2_with fail
      refine (HC.out _ (below2 w _ _) (by simp [go_sem])).mono ?_
      rintro e w1 ⟨⟨r, rfl, hr⟩, hb1⟩
      have HB := hid (bstep' (below2 w _ _) hb1)
      have HE : Hid ((!r) = G) := by
        rw [Bool.eq_iff_iff, HG.out]
        cases r with
        | false => exact ⟨fun _ => ⟨hr.1 rfl, by omega, by omega⟩, fun _ => rfl⟩
        | true => exact ⟨fun h => (by cases h), fun hg => (by have := hr.2 hg.1; cases this)⟩
      clear hr hb1
      go_wp2
      go_ret
      exact ⟨ret_bool HE.out, HB.out⟩
end Go.Proofs.YtjnlhffmahfekaaDoor
