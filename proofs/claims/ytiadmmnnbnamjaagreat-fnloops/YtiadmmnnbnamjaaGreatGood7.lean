/- Whether a graph is good: the model's test and the program's. -/
import Derived.Test.YtiadmmnnbnamjaaGreatGraph1
import Derived.Deep.RegionHeld
namespace Go.Proofs.YtiadmmnnbnamjaaGreat
open Go.RowKit
set_option linter.unusedVariables false
set_option linter.unusedSimpArgs false
set_option maxRecDepth 100000

/-- one number of a list of Next is as it should be -/
def NxAt (n : Nat) (l : List Int) (i : Nat) (v : Int) : Prop := 0 ≤ v ∧ v < n ∧ ∀ j u, j + 1 = i → l[j]? = some u → u < v
theorem goodNx_of {n : Nat} {l : List Int} (h : ∀ (i : Nat) v, l[i]? = some v → NxAt n l i v) : GoodNx n l := ⟨fun i v hv => ⟨(h i v hv).1, (h i v hv).2.1⟩, fun i u v hu hv => (h (i + 1) v hv).2.2 i u rfl hu⟩
theorem goodNx_at {n : Nat} {l : List Int} (h : GoodNx n l) (i : Nat) (v : Int) (hv : l[i]? = some v) : NxAt n l i v := ⟨(h.1 i v hv).1, (h.1 i v hv).2, fun j u hj hu => h.2 j u v hu (by rw [hj]; exact hv)⟩
theorem bad_bool {G : Bool} {p : Prop} (h : G = true ↔ p) (hp : ¬ p) : false = G := by cases G with | false => rfl | true => exact absurd (h.1 rfl) hp
set_option maxHeartbeats 4000000 in
/-- the model's test on a graph -/
theorem sGood_any (a : Option Addr) (c : Nat) (xs : List (List Int)) (G : Bool) (w : World) (hl : xs.length ≤ 9223372036854775807) (h : LRow w a xs) (hG : G = true ↔ GoodG xs) :
    Calls Tryz.prog 61 #[.agg #[.slice a xs.length c]] w fun e w' => e = .returned (.bool G) ∧ Below w.heap.size w w' := by
  have H := hid (fun W (hb : Below w.heap.size w W) => h.below hb)
  have HG := hid hG
  have HI := hid (fun W => l1In_any xs.length 1 12 W)
  clear h hG
  go_enter Tryz.func61, Tryz.ntmps61
  go_wp2
  go_loopw [14] (fun t14 wr => ∃ (k : Nat), t14 = .int .i64 k ∧ k ≤ xs.length ∧ (∀ (i : Nat) l, i < k → xs[i]? = some l → GoodNx xs.length l) ∧ Below w.heap.size w wr) (fun t14 _ => xs.length - (intOf t14).toNat)
  case atStart => exact ⟨0, rfl, by omega, by intro i l hi; omega, below1 w _⟩
  case round =>
    obtain ⟨k, rfl, hk, hbf, hB⟩ := hrel
    have HF := hid hbf
    clear hbf
    by_cases hlt : k < xs.length
    · have hx : xs ≠ [] := by intro e; subst e; simp at hlt
      obtain ⟨b, off, rfl, hbw, hat⟩ := (H.out wr hB).at hx
      obtain ⟨t, ta, tc, c0, l1, HR, HX⟩ := hat wr (Below.refl _ _) k hlt
      clear hat hx
      have HN : Hid (∀ i v, t[i]? = some v → ¬ NxAt xs.length t i v → false = G) := fun i v hv hn => bad_bool HG.out fun hg => hn (goodNx_at (hg.1 k t HX.out) i v hv)
      go_wp2
      go_loop [20] (fun t20 => ∃ (q : Nat), t20 = .int .i64 q ∧ q ≤ t.length ∧ (∀ (i : Nat) v, i < q → t[i]? = some v → NxAt xs.length t i v)) (fun t20 => t.length - (intOf t20).toNat)
      case atStart => exact ⟨0, rfl, by omega, by intro i l hi; omega⟩
      case round =>
        obtain ⟨q, rfl, hq, hqf⟩ := hrel
        have HQ := hid hqf
        clear hqf
        by_cases hqt : q < t.length
        · have hx : t ≠ [] := by intro e; subst e; simp at hqt
          obtain ⟨tb, toff, rfl, htbw, htat⟩ := HR.out.at hx
          obtain ⟨v, c1, HV⟩ := htat wr (Below.refl _ _) q hqt
          by_cases h0 : v < 0
          · clear htat hx
            have HE := hid (HN.out q v HV.out (fun h => by have := h.1; omega))
            go_wp2
            go_ret
            exact ⟨ret_bool HE.out, hB⟩
          · by_cases h1 : (xs.length : Int) ≤ v
            · clear htat hx
              have HE := hid (HN.out q v HV.out (fun h => by have := h.2.1; omega))
              go_wp2
              go_ret
              exact ⟨ret_bool HE.out, hB⟩
            · by_cases hq0 : q = 0
              · subst hq0
                rw [Nat.add_zero] at c1
                clear htat hx
                go_wp2
                go_round
                case rel =>
                  refine ⟨1, by go_num, by omega, fun i u hi hu => ?_⟩
                  obtain rfl : i = 0 := by omega
                  obtain rfl := Option.some.inj (HV.out.symm.trans hu)
                  exact ⟨by omega, by omega, fun j u' hj => by omega⟩
                case measure => simp [intOf]; omega
              · obtain ⟨u, c2, HU⟩ := htat wr (Below.refl _ _) (q - 1) (by omega)
                have c3 : wr.cell? ⟨tb, ((toff : Int) + ((q : Int) - 1)).toNat, none⟩ = some (.int .i64 u) := by rw [show ((toff : Int) + ((q : Int) - 1)).toNat = toff + (q - 1) by omega]; exact c2
                clear htat hx
                by_cases huv : v ≤ u
                · have HE := hid (HN.out q v HV.out (fun h => by have := h.2.2 (q - 1) u (by omega) HU.out; omega))
                  go_wp2
                  go_ret
                  exact ⟨ret_bool HE.out, hB⟩
                · go_wp2
                  go_round
                  case rel =>
                    refine ⟨q + 1, by go_num, by omega, fun i z hi hz => ?_⟩
                    by_cases e : i = q
                    · subst e
                      obtain rfl := Option.some.inj (HV.out.symm.trans hz)
                      refine ⟨by omega, by omega, fun j u' hj hu' => ?_⟩
                      obtain rfl : j = i - 1 := by omega
                      obtain rfl := Option.some.inj (HU.out.symm.trans hu')
                      omega
                    · exact HQ.out i z (by omega) hz
                  case measure => simp [intOf]; omega
        · obtain rfl : q = t.length := by omega
          have HE := hid (goodNx_of fun i v hv => HQ.out i v (List.getElem?_eq_some_iff.1 hv).1 hv)
          go_wp2
          go_roundw
          case rel =>
            refine ⟨k + 1, by go_num, by omega, fun i l hi hil => ?_, hB⟩
            by_cases e : i = k
            · subst e
              obtain rfl := Option.some.inj (HX.out.symm.trans hil)
              exact HE.out
            · exact HF.out i l (by omega) hil
          case measure => simp [intOf]; omega
    · obtain rfl : k = xs.length := by omega
      go_wp2_with fail
      refine (HI.out _).mono ?_
      rintro e w1 ⟨rfl, hw⟩
      subst w1
      have HE : Hid (inB 1 12 (xs.length : Int) = G) := by
        rw [Bool.eq_iff_iff, HG.out]
        simp only [inB, Bool.and_eq_true, decide_eq_true_eq]
        exact ⟨fun h => ⟨fun i l hil => HF.out i l (List.getElem?_eq_some_iff.1 hil).1 hil, by omega, by omega⟩, fun h => ⟨by have := h.2.1; omega, by have := h.2.2; omega⟩⟩
      go_wp2
      go_ret
      exact ⟨ret_bool HE.out, hB⟩
/-- all numbers lie below a limit -/
def belB (m : Int) (k : Int) : Bool := inB 0 (m - 1) k
def allBel (m : Int) (t : List Int) : Bool := t.all (belB m)
theorem below1_any (bx : Nat) (n m : Int) (w : World) (hc : w.cell? ⟨bx, 0, none⟩ = some (.int .i64 m)) :
    Calls Tryz.prog 88 #[.int .i64 n, .pointer (some ⟨bx, 0, none⟩)] w fun e w' => e = .returned (.bool (!belB m n)) ∧ w' = w := by
  by_cases h0 : n < 0
  all_goals
    go_enter Tryz.func88, Tryz.ntmps88
    go_wp2
    go_ret
    exact ⟨ret_bool (by rw [Bool.eq_iff_iff]; simp [belB, inB]; omega), rfl⟩
/-- the library's IndexFunc, with that closure -/
theorem indexI_any (a : Option Addr) (c : Nat) (t : List Int) (bx : Nat) (m : Int) (w : World) (hl : t.length ≤ 9223372036854775807) (h : Row w a t) (hc : w.cell? ⟨bx, 0, none⟩ = some (.int .i64 m)) :
    Calls Tryz.prog 101 #[.slice a t.length c, .func (.func 88) #[] #[.pointer (some ⟨bx, 0, none⟩)]] w fun e w' => (∃ r : Int, e = .returned (.int .i64 r) ∧ decide (0 ≤ r) = !allBel m t) ∧ w' = w := by
  have H := hid h
  clear h
  go_enter Tryz.func101, Tryz.ntmps101
  go_wp2
  go_loop [8] (fun t8 => ∃ (k : Nat), t8 = .int .i64 k ∧ k ≤ t.length ∧ (∀ j v, j < k → t[j]? = some v → belB m v = true)) (fun t8 => t.length - (intOf t8).toNat)
  case atStart => exact ⟨0, rfl, by omega, by intro j x hj; omega⟩
  case round =>
    obtain ⟨k, rfl, hk, hbf⟩ := hrel
    have HF := hid hbf
    clear hbf
    by_cases hlt : k < t.length
    · have hx : t ≠ [] := by intro e; subst e; simp at hlt
      obtain ⟨b, off, rfl, hbw, hat⟩ := H.out.at hx
      obtain ⟨v, c1, HX⟩ := hat w (Below.refl _ _) k hlt
      clear hat hx
      have hcl := below1_any bx v m w hc
      cases hv : belB m v with
      | false =>
        rw [hv] at hcl
        have HC := hid hcl
        have HI : Hid (allBel m t = false) := all_bad HX.out hv
        clear hcl hv
        go_wp2_with (go_at_call 88; refine HC.out.mono ?_; rintro e w1 ⟨rfl, hw⟩; subst w1)
        go_ret
        exact ⟨⟨_, rfl, by rw [HI.out]; simp⟩, rfl⟩
      | true =>
        rw [hv] at hcl
        have HC := hid hcl
        have HI : Hid (∀ j v, j < k + 1 → t[j]? = some v → belB m v = true) := by
          intro j u hj hu
          by_cases e : j = k
          · subst e; rw [HX.out] at hu; cases hu; exact hv
          · exact HF.out j u (by omega) hu
        clear hcl hv
        go_wp2_with (go_at_call 88; refine HC.out.mono ?_; rintro e w1 ⟨rfl, hw⟩; subst w1)
        go_round
        case rel => exact ⟨k + 1, by go_num, by omega, HI.out⟩
        case measure => simp [intOf]; omega
    · obtain rfl : k = t.length := by omega
      have HI : Hid (allBel m t = true) := all_of (fun j v hv => HF.out j v (List.getElem?_eq_some_iff.1 hv).1 hv)
      go_wp2
      go_ret
      exact ⟨⟨_, rfl, by rw [HI.out]; rfl⟩, rfl⟩
theorem containsI_any (a : Option Addr) (c : Nat) (t : List Int) (bx : Nat) (m : Int) (w : World) (hl : t.length ≤ 9223372036854775807) (h : Row w a t) (hc : w.cell? ⟨bx, 0, none⟩ = some (.int .i64 m)) :
    Calls Tryz.prog 87 #[.slice a t.length c, .func (.func 88) #[] #[.pointer (some ⟨bx, 0, none⟩)]] w fun e w' => e = .returned (.bool (!allBel m t)) ∧ w' = w := by
  have H := hid (And.intro h hc)
  clear h hc
  go_enter Tryz.func87, Tryz.ntmps87
  go_wp2_with fail
  refine (indexI_any a c t bx m _ hl H.out.1 H.out.2).mono ?_
  rintro e w1 ⟨⟨r, rfl, hr⟩, hw⟩
  subst w1
  have HR := hid hr
  clear hr
  go_wp2
  go_ret
  exact ⟨ret_bool HR.out, rfl⟩
theorem areBelow_any (a : Option Addr) (c : Nat) (t : List Int) (m : Int) (w : World) (hl : t.length ≤ 9223372036854775807) (h : Row w a t) :
    Calls Tryz.prog 69 #[.int .i64 m, .slice a t.length c] w fun e w' => e = .returned (.bool (allBel m t)) ∧ Below w.heap.size w w' := by
  have H := hid h
  clear h
  go_enter Tryz.func69, Tryz.ntmps69
  go_wp2_with fail
  refine (containsI_any a c t w.heap.size m _ hl (H.out.below (below1 w _)) (by simp [go_sem])).mono ?_
  rintro e w1 ⟨rfl, hw⟩
  subst w1
  go_wp2
  go_ret
  exact ⟨ret_bool (by simp), below1 w _⟩
theorem row_new1 (w : World) (x : Int) (t : TypeId) : Row (w.alloc (.cells #[.int .i64 x] t)) (some ⟨w.heap.size, 0, none⟩) [x] := by
  refine .inr ⟨_, _, rfl, fun i hi => ?_⟩
  match i, hi with
  | 0, _ => simp [go_sem]
theorem row_new2 (w : World) (x y : Int) (t : TypeId) : Row (w.alloc (.cells #[.int .i64 x, .int .i64 y] t)) (some ⟨w.heap.size, 0, none⟩) [x, y] := by
  refine .inr ⟨_, _, rfl, fun i hi => ?_⟩
  match i, hi with
  | 0, _ => simp [go_sem]
  | 1, _ => simp [go_sem]
theorem row_new3 (w : World) (x y z : Int) (t : TypeId) : Row (w.alloc (.cells #[.int .i64 x, .int .i64 y, .int .i64 z] t)) (some ⟨w.heap.size, 0, none⟩) [x, y, z] := by
  refine .inr ⟨_, _, rfl, fun i hi => ?_⟩
  match i, hi with
  | 0, _ => simp [go_sem]
  | 1, _ => simp [go_sem]
  | 2, _ => simp [go_sem]

theorem allBel_iff {m : Nat} {t : List Int} : allBel m t = true ↔ ∀ (i : Nat) v, t[i]? = some v → 0 ≤ v ∧ v < m := by
  constructor
  · intro h i v hv
    have := all_at h hv
    simp only [belB, inB, decide_eq_true_eq] at this
    omega
  · intro h
    refine all_of fun j v hv => ?_
    have := h j v hv
    simp only [belB, inB, decide_eq_true_eq]
    omega
def Rises (l : List Int) : Prop := ∀ (i : Nat) u v, l[i]? = some u → l[i + 1]? = some v → u < v
set_option maxHeartbeats 1000000 in
theorem isRising_any (a : Option Addr) (c : Nat) (t : List Int) (w : World) (hl : t.length ≤ 9223372036854775807) (h : Row w a t) :
    Calls Tryz.prog 70 #[.slice a t.length c] w fun e w' => (∃ r : Bool, e = .returned (.bool r) ∧ (r = true ↔ Rises t)) ∧ Below w.heap.size w w' := by
  have H := hid h
  clear h
  go_enter Tryz.func70, Tryz.ntmps70
  go_wp2
  go_loopw [3] (fun t3 wr => ∃ (k : Nat), t3 = .int .i64 k ∧ 1 ≤ k ∧ (k ≤ t.length ∨ k = 1) ∧ (∀ (i : Nat) u v, i + 1 < k → t[i]? = some u → t[i + 1]? = some v → u < v) ∧ Below w.heap.size w wr) (fun t3 _ => t.length - (intOf t3).toNat)
  case atStart => exact ⟨1, rfl, by omega, by omega, by intro i u v hi; omega, Below.refl _ _⟩
  case round =>
    obtain ⟨k, rfl, hk1, hk, hbf, hB⟩ := hrel
    have HF := hid hbf
    clear hbf
    by_cases hlt : k < t.length
    · have hx : t ≠ [] := by intro e; subst e; simp at hlt
      obtain ⟨b, off, rfl, hbw, hat⟩ := H.out.at hx
      obtain ⟨v, c1, HV⟩ := hat wr hB k hlt
      obtain ⟨u, c2, HU⟩ := hat wr hB (k - 1) (by omega)
      have c3 : wr.cell? ⟨b, ((off : Int) + ((k : Int) - 1)).toNat, none⟩ = some (.int .i64 u) := by rw [show ((off : Int) + ((k : Int) - 1)).toNat = off + (k - 1) by omega]; exact c2
      clear hat hx
      by_cases huv : v ≤ u
      · have HE : Hid (¬ Rises t) := fun hr => by
          have := hr (k - 1) u v HU.out (by rw [show k - 1 + 1 = k by omega]; exact HV.out)
          omega
        go_wp2
        go_region
        all_goals
          go_wp2
          go_ret
          exact ⟨⟨_, rfl, by simp [HE.out]⟩, hB.drew⟩
      · go_wp2
        go_region
        all_goals
          go_wp2
          go_roundw
          case rel =>
            refine ⟨k + 1, by go_num, by omega, by omega, fun i y z hi hy hz => ?_, hB.drew⟩
            by_cases e : i + 1 = k
            · obtain rfl : i = k - 1 := by omega
              rw [e] at hz
              obtain rfl := Option.some.inj (HV.out.symm.trans hz)
              obtain rfl := Option.some.inj (HU.out.symm.trans hy)
              omega
            · exact HF.out i y z (by omega) hy hz
          case measure => simp [intOf]; omega
    · have HE : Hid (Rises t) := fun i u v hu hv => HF.out i u v (by have := (List.getElem?_eq_some_iff.1 hv).1; omega) hu hv
      go_wp2
      go_ret
      exact ⟨⟨_, rfl, by simp [HE.out]⟩, hB⟩
theorem nx_iff {n : Nat} {t : List Int} : GoodNx n t ↔ allBel n t = true ∧ Rises t := by
  rw [allBel_iff]; exact Iff.rfl
set_option maxHeartbeats 1000000 in
theorem goodG1_any (bx : Nat) (a : Option Addr) (c n : Nat) (t : List Int) (w : World) (hl : t.length ≤ 9223372036854775807) (h : Row w a t) (hc : w.cell? ⟨bx, 0, none⟩ = some (.int .i64 n)) :
    Calls Tryz.prog 68 #[.slice a t.length c, .pointer (some ⟨bx, 0, none⟩)] w fun e w' => (∃ r : Bool, e = .returned (.bool r) ∧ (r = false ↔ GoodNx n t)) ∧ Below w.heap.size w w' := by
  have H := hid h
  clear h
  cases hA : allBel n t with
  | false =>
    have HE : Hid (¬ GoodNx n t) := fun hg => by rw [(nx_iff.1 hg).1] at hA; cases hA
    have HA := hid (fun W hb => areBelow_any a c t n W hl (H.out.below hb))
    rw [hA] at HA
    clear hA
    go_enter Tryz.func68, Tryz.ntmps68
    go_wp2_with fail
    refine (HA.out _ (Below.refl _ _)).mono ?_
    rintro e w1 ⟨rfl, hb1⟩
    have HB := hid hb1
    clear hb1
    go_wp2
    go_ret
    exact ⟨⟨_, rfl, by simp [HE.out]⟩, HB.out⟩
  | true =>
    have HA := hid (fun W hb => areBelow_any a c t n W hl (H.out.below hb))
    rw [hA] at HA
    have HT := hid hA
    clear hA
    go_enter Tryz.func68, Tryz.ntmps68
    go_wp2_with fail
    refine (HA.out _ (Below.refl _ _)).mono ?_
    rintro e w1 ⟨rfl, hb1⟩
    have HB := hid hb1
    clear hb1
    go_wp2_with fail
    refine (isRising_any a c t _ hl (H.out.below HB.out)).mono ?_
    rintro e w2 ⟨⟨r, rfl, hr⟩, hb2⟩
    have HR := hid hr
    have HB2 := hid (bstep' HB.out hb2)
    clear hr hb2
    go_wp2
    go_ret
    refine ⟨⟨_, rfl, ?_⟩, HB2.out⟩
    rw [nx_iff]
    have := HR.out
    cases r <;> simp_all [HT.out]
set_option maxHeartbeats 2000000 in
/-- the library's IndexFunc over lists, with that closure -/
theorem indexG_any (a : Option Addr) (c n : Nat) (xs : List (List Int)) (bx : Nat) (w : World) (hl : xs.length ≤ 9223372036854775807) (h : LRow w a xs) (hc : w.cell? ⟨bx, 0, none⟩ = some (.int .i64 n)) :
    Calls Tryz.prog 86 #[.slice a xs.length c, .func (.func 68) #[] #[.pointer (some ⟨bx, 0, none⟩)]] w fun e w' => (∃ r : Int, e = .returned (.int .i64 r) ∧ (r < 0 ↔ ∀ (i : Nat) l, xs[i]? = some l → GoodNx n l)) ∧ Below w.heap.size w w' := by
  have H := hid (And.intro h hc)
  clear h hc
  go_enter Tryz.func86, Tryz.ntmps86
  go_wp2
  go_loopw [8] (fun t8 wr => ∃ (k : Nat), t8 = .int .i64 k ∧ k ≤ xs.length ∧ (∀ (j : Nat) v, j < k → xs[j]? = some v → GoodNx n v) ∧ Below w.heap.size w wr) (fun t8 _ => xs.length - (intOf t8).toNat)
  case atStart => exact ⟨0, rfl, by omega, by intro j x hj; omega, Below.refl _ _⟩
  case round =>
    obtain ⟨k, rfl, hk, hbf, hB⟩ := hrel
    have HF := hid hbf
    clear hbf
    by_cases hlt : k < xs.length
    · have hx : xs ≠ [] := by intro e; subst e; simp at hlt
      obtain ⟨b, off, rfl, hbw, hat⟩ := H.out.1.at hx
      obtain ⟨t, ta, tc, c0, l1, HR, HX⟩ := hat wr hB k hlt
      clear hat hx
      have HC := hid (goodG1_any bx ta tc n t wr l1 (HR.out.below hB) (cell_below H.out.2 hB))
      go_wp2_with fail
      refine HC.out.mono ?_
      rintro e w1 ⟨⟨r, rfl, hr⟩, hb1⟩
      cases r with
      | true =>
        have HI : Hid (¬ ∀ (i : Nat) l, xs[i]? = some l → GoodNx n l) := fun ha => by have := hr.2 (ha k t HX.out); cases this
        clear hr
        go_wp2
        go_ret
        exact ⟨⟨_, rfl, ⟨fun h => by omega, fun h => absurd h HI.out⟩⟩, bstep' hB hb1⟩
      | false =>
        have HI : Hid (∀ (j : Nat) v, j < k + 1 → xs[j]? = some v → GoodNx n v) := by
          intro j u hj hu
          by_cases e : j = k
          · subst e; rw [HX.out] at hu; cases hu; exact hr.1 rfl
          · exact HF.out j u (by omega) hu
        clear hr
        go_wp2
        go_roundw
        case rel => exact ⟨k + 1, by go_num, by omega, HI.out, bstep' hB hb1⟩
        case measure => simp [intOf]; omega
    · obtain rfl : k = xs.length := by omega
      have HI : Hid (∀ (i : Nat) l, xs[i]? = some l → GoodNx n l) := fun j v hv => HF.out j v (List.getElem?_eq_some_iff.1 hv).1 hv
      go_wp2
      go_ret
      exact ⟨⟨_, rfl, ⟨fun _ => HI.out, fun _ => by decide⟩⟩, hB⟩
theorem containsG_any (a : Option Addr) (c n : Nat) (xs : List (List Int)) (bx : Nat) (w : World) (hl : xs.length ≤ 9223372036854775807) (h : LRow w a xs) (hc : w.cell? ⟨bx, 0, none⟩ = some (.int .i64 n)) :
    Calls Tryz.prog 67 #[.slice a xs.length c, .func (.func 68) #[] #[.pointer (some ⟨bx, 0, none⟩)]] w fun e w' => (∃ r : Bool, e = .returned (.bool r) ∧ (r = false ↔ ∀ (i : Nat) l, xs[i]? = some l → GoodNx n l)) ∧ Below w.heap.size w w' := by
  have H := hid (And.intro h hc)
  clear h hc
  go_enter Tryz.func67, Tryz.ntmps67
  go_wp2_with fail
  refine (indexG_any a c n xs bx _ hl H.out.1 H.out.2).mono ?_
  rintro e w1 ⟨⟨r, rfl, hr⟩, hb1⟩
  have HR := hid hr
  clear hr
  go_wp2
  go_ret
  refine ⟨⟨_, rfl, ?_⟩, hb1⟩
  rw [← HR.out]
  simp
set_option maxHeartbeats 2000000 in
/-- the program's test on a graph -/
theorem iGood_any (a : Option Addr) (c : Nat) (xs : List (List Int)) (G : Bool) (w : World) (hl : xs.length ≤ 9223372036854775807) (h : LRow w a xs) (hG : G = true ↔ GoodG xs) :
    Calls Tryz.prog 33 #[.agg #[.slice a xs.length c]] w fun e w' => e = .returned (.bool G) ∧ Below w.heap.size w w' := by
  have H := hid h
  have HG := hid hG
  clear h hG
  by_cases h0 : xs.length = 0
  · have HE := hid (bad_bool HG.out (fun hg => by have := hg.2.1; omega))
    go_enter Tryz.func33, Tryz.ntmps33
    go_wp2
    go_ret
    exact ⟨ret_bool HE.out, below2 w _ _⟩
  · by_cases h12 : 12 < xs.length
    · have HE := hid (bad_bool HG.out (fun hg => by have := hg.2.2; omega))
      go_enter Tryz.func33, Tryz.ntmps33
      go_wp2
      go_ret
      exact ⟨ret_bool HE.out, below2 w _ _⟩
    · have HC := hid (fun W hb hc => containsG_any a c xs.length xs (w.heap.size + 1) W hl (H.out.below hb) hc)
      have h0' : ¬ (xs.length : Int) = 0 := by omega
      have h12' : ¬ (12 : Int) < xs.length := by omega
      go_enter Tryz.func33, Tryz.ntmps33
      go_wp2_with fail
      refine (HC.out _ (below2 w _ _) (by simp [go_sem])).mono ?_
      rintro e w1 ⟨⟨r, rfl, hr⟩, hb1⟩
      have HB := hid (bstep' (below2 w _ _) hb1)
      have HE : Hid ((!r) = G) := by
        rw [Bool.eq_iff_iff, HG.out]
        cases r with
        | false => exact ⟨fun _ => ⟨hr.1 rfl, by omega, by omega⟩, fun _ => rfl⟩
        | true => exact ⟨fun h => (by cases h), fun hg => (by have := hr.2 hg.1; cases this)⟩
      clear hr hb1
      go_wp2
      go_ret
      exact ⟨ret_bool HE.out, HB.out⟩
end Go.Proofs.YtiadmmnnbnamjaaGreat
