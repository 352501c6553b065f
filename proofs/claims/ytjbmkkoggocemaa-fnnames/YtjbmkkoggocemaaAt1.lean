/- Where a section stands in a list, as the program finds it. -/
import Derived.Test.YtjbmkkoggocemaaSect3
namespace Go.Proofs.Ytjbmkkoggocemaa
open Go.RowKit
set_option linter.unusedVariables false
set_option linter.unusedSimpArgs false

/-- the place of the first section whose Id is as great, or behind all -/
def plc (xs : List Sec) (id : Int) : Nat := xs.findIdx fun x => decide (id ≤ x.1)
theorem plc_le (xs : List Sec) (id : Int) : plc xs id ≤ xs.length := List.findIdx_le_length
theorem plc_here {xs : List Sec} {id : Int} {k : Nat} {i : Int} {s : ByteArray} (h : xs[k]? = some (i, s)) (hb : ∀ (j : Nat) (x : Sec), j < k → xs[j]? = some x → x.1 < id) (hi : id ≤ i) : plc xs id = k := by
  obtain ⟨hk, hx⟩ := List.getElem?_eq_some_iff.1 h
  unfold plc
  rw [List.findIdx_eq hk]
  refine ⟨by rw [hx]; simpa using hi, fun j hj => ?_⟩
  have := hb j xs[j] hj (by simp)
  simp; exact this
theorem plc_none {xs : List Sec} {id : Int} (hb : ∀ (j : Nat) (x : Sec), xs[j]? = some x → x.1 < id) : plc xs id = xs.length := by
  unfold plc
  rw [List.findIdx_eq_length]
  intro x hx
  obtain ⟨j, hj, rfl⟩ := List.mem_iff_getElem.1 hx
  have := hb j xs[j] (by simp)
  simp; exact this
theorem plc_below {xs : List Sec} {id : Int} {j : Nat} {x : Sec} (hj : j < plc xs id) (h : xs[j]? = some x) : x.1 < id := by
  obtain ⟨hk, rfl⟩ := List.getElem?_eq_some_iff.1 h
  have := List.not_of_lt_findIdx hj
  simp at this
  exact this

/-- the closure that asks whether an Id is as great -/
theorem asGreat_any (i : Int) (s : ByteArray) (g : Nat) (id : Int) (w : World) (hc : w.cell? ⟨g, 0, none⟩ = some (.int .i64 id)) (hg : g < w.heap.size) :
    Calls Try.prog 65 #[.agg #[.int .i64 i, .string s], .pointer (some ⟨g, 0, none⟩)] w fun e w' => e = .returned (.bool (decide (id ≤ i))) ∧ Below w.heap.size w w' := by
  by_cases h : id ≤ i
  all_goals
    go_enter Try.func65, Try.ntmps65
    go_wp2
    go_ret
    exact ⟨by simp [h], (Below.refl _ w).alloc (Nat.le_refl _) _⟩

/-- the place that the library's search tells -/
def idxV (xs : List Sec) (id : Int) : Int := if plc xs id < xs.length then plc xs id else -1

set_option maxRecDepth 100000 in
/-- the library's IndexFunc, with that closure -/
theorem index_any (a : Option Addr) (c : Nat) (xs : List Sec) (g : Nat) (id : Int) (w : World) (hl : xs.length ≤ 9223372036854775807) (h : SRow w a xs) (hc : w.cell? ⟨g, 0, none⟩ = some (.int .i64 id)) (hg : g < w.heap.size) :
    Calls Try.prog 64 #[.slice a xs.length c, .func (.func 65) #[] #[.pointer (some ⟨g, 0, none⟩)]] w fun e w' => e = .returned (.int .i64 (idxV xs id)) ∧ Below w.heap.size w w' := by
  by_cases hx : xs = []
  · subst hx
    clear h
    go_enter Try.func64, Try.ntmps64
    go_wp2
    go_loopw [8] (fun t wr => t = .int .i64 0 ∧ wr = w) (fun t _ => 0)
    case atStart => exact ⟨rfl, rfl⟩
    case round =>
      obtain ⟨rfl, rfl⟩ := hrel
      go_wp2
      go_ret
      exact ⟨rfl, Below.refl _ _⟩
  · obtain ⟨b, off, rfl, hat⟩ := h.at hx
    have HA : Hid (_) := hat
    have HC : Hid (w.cell? ⟨g, 0, none⟩ = some (.int .i64 id)) := hc
    clear hat hx h hc
    go_enter Try.func64, Try.ntmps64
    go_wp2
    go_loopw [8] (fun t wr => ∃ (k : Nat), t = .int .i64 k ∧ k ≤ xs.length ∧ (∀ j x, j < k → xs[j]? = some x → x.1 < id) ∧ Below w.heap.size w wr) (fun t _ => xs.length - (intOf t).toNat)
    case atStart => exact ⟨0, rfl, by omega, by intro j x hj; omega, Below.refl _ _⟩
    case round =>
      obtain ⟨k, rfl, hk, hbf, hB⟩ := hrel
      have HF : Hid (∀ j x, j < k → xs[j]? = some x → x.1 < id) := hbf
      clear hbf
      by_cases hlt : k < xs.length
      · obtain ⟨i, s, c1, c2, hs, hbw, HX⟩ := HA.out wr hB k hlt
        have hcr : wr.cell? ⟨g, 0, none⟩ = some (.int .i64 id) := by rw [hB.cell (by simpa using hg)]; exact HC.out
        have hgr : g < wr.heap.size := Nat.lt_of_lt_of_le hg hB.size
        by_cases hi : id ≤ i
        · have HI : Hid (idxV xs id = (k : Int)) := by
            show _ = _
            have := plc_here HX.out HF.out hi
            unfold idxV; rw [this, if_pos hlt]
          have ha := fun w hc hg => asGreat_any i s g id w hc hg
          have hd : decide (id ≤ i) = true := by simp [hi]
          rw [hd] at ha
          have HAG : Hid (∀ w, w.cell? ⟨g, 0, none⟩ = some (.int .i64 id) → g < w.heap.size → Calls Try.prog 65 #[.agg #[.int .i64 i, .string s], .pointer (some ⟨g, 0, none⟩)] w fun e w' => e = .returned (.bool true) ∧ Below w.heap.size w w') := ha
          clear ha hd
          go_wp2_with (go_at_call 65; refine (HAG.out _ hcr hgr).mono ?_; rintro e w1 ⟨rfl, hb1⟩)
          go_ret
          exact ⟨by rw [HI.out]; rfl, bstep hB (Nat.le_refl _) hb1⟩
        · have ha := fun w hc hg => asGreat_any i s g id w hc hg
          have hd : decide (id ≤ i) = false := by simp; omega
          rw [hd] at ha
          have HAG : Hid (∀ w, w.cell? ⟨g, 0, none⟩ = some (.int .i64 id) → g < w.heap.size → Calls Try.prog 65 #[.agg #[.int .i64 i, .string s], .pointer (some ⟨g, 0, none⟩)] w fun e w' => e = .returned (.bool false) ∧ Below w.heap.size w w') := ha
          clear ha hd
          go_wp2_with (go_at_call 65; refine (HAG.out _ hcr hgr).mono ?_; rintro e w1 ⟨rfl, hb1⟩)
          go_roundw
          case rel =>
            refine ⟨k + 1, by go_num, by omega, ?_, bstep hB (Nat.le_refl _) hb1⟩
            intro j x hj hx
            by_cases e : j = k
            · subst e; rw [HX.out] at hx; cases hx; show i < id; omega
            · exact HF.out j x (by omega) hx
          case measure => simp [intOf]; omega
      · obtain rfl : k = xs.length := by omega
        have HI : Hid (idxV xs id = -1) := by
          show _ = _
          have := plc_none (xs := xs) (id := id) (fun j x hx => HF.out j x (List.getElem?_eq_some_iff.1 hx).1 hx)
          unfold idxV; rw [this]; simp
        go_wp2
        go_ret
        exact ⟨by rw [HI.out]; rfl, hB⟩

/-- whether the section at the place has the Id -/
def fnd (xs : List Sec) (id : Int) : Bool := match xs[plc xs id]? with | some x => x.1 == id | none => false

set_option maxRecDepth 100000 in
/-- the program's placeOf -/
theorem place_any (a : Option Addr) (c : Nat) (xs : List Sec) (id : Int) (w : World) (hl : xs.length ≤ 9223372036854775807) (h : SRow w a xs) :
    Calls Try.prog 41 #[.slice a xs.length c, .int .i64 id] w fun e w' => e = .returned (.tuple #[.int .i64 (plc xs id), .bool (fnd xs id)]) ∧ Below w.heap.size w w' := by
  have hb0 : Below w.heap.size w (w.alloc (.cells #[.int .i64 id] 3)) := (Below.refl _ w).alloc (Nat.le_refl _) _
  have hx := index_any a c xs w.heap.size id (w.alloc (.cells #[.int .i64 id] 3)) hl (h.below hb0) (by simp) (by simp)
  by_cases hp : plc xs id < xs.length
  · have hne : xs ≠ [] := by intro e; subst e; simp at hp
    obtain ⟨b, off, rfl, hat⟩ := h.at hne
    have hv : idxV xs id = (plc xs id : Int) := by unfold idxV; rw [if_pos hp]
    rw [hv] at hx
    obtain ⟨k, hk⟩ : ∃ k, plc xs id = k := ⟨_, rfl⟩
    obtain ⟨⟨i0, s0⟩, hx0⟩ : ∃ x, xs[k]? = some x := ⟨xs[k]'(by omega), by simp⟩
    have hfd : fnd xs id = (i0 == id) := by unfold fnd; rw [hk, hx0]
    have HX0 : Hid (xs[k]? = some (i0, s0)) := hx0
    rw [hk] at hx hp
    rw [hfd, hk]
    have HX : Hid (Calls Try.prog 64 #[.slice (some ⟨b, off, none⟩) xs.length c, .func (.func 65) #[] #[.pointer (some ⟨w.heap.size, 0, none⟩)]] (w.alloc (.cells #[.int .i64 id] 3)) fun e w' => e = .returned (.int .i64 k) ∧ Below (w.alloc (.cells #[.int .i64 id] 3)).heap.size (w.alloc (.cells #[.int .i64 id] 3)) w') := hx
    have HA : Hid (_) := hat
    clear hx hat hv hfd hk h hx0
    go_enter Try.func41, Try.ntmps41
    go_wp2_with fail
    refine Calls.mono HX.out ?_
    rintro e w1 ⟨rfl, hb1⟩
    have B1 := bstep hb0 (Nat.le_refl _) hb1
    obtain ⟨i, s, c1, c2, hs, hbw, HE⟩ := HA.out w1 B1 k hp
    have hc0 : w1.cell? ⟨w.heap.size, 0, none⟩ = some (.int .i64 id) := by rw [hb1.cell (by simp)]; simp
    obtain ⟨rfl, rfl⟩ : i0 = i ∧ s0 = s := by
      have := HX0.out.symm.trans HE.out
      simp at this
      exact this
    go_wp2
    go_quiet (fail)
    go_wp2
    go_ret2
    refine ⟨rfl, ?_⟩
    exact B1.trans ⟨rfl, rfl, rfl, Nat.le_refl _, fun _ _ => rfl⟩
  · have hpl : plc xs id = xs.length := by have := plc_le xs id; omega
    have hv : idxV xs id = -1 := by unfold idxV; rw [if_neg hp]
    have hfd : fnd xs id = false := by unfold fnd; rw [hpl]; simp
    rw [hv] at hx
    rw [hfd, hpl]
    have HX : Hid (Calls Try.prog 64 #[.slice a xs.length c, .func (.func 65) #[] #[.pointer (some ⟨w.heap.size, 0, none⟩)]] (w.alloc (.cells #[.int .i64 id] 3)) fun e w' => e = .returned (.int .i64 (-1)) ∧ Below (w.alloc (.cells #[.int .i64 id] 3)).heap.size (w.alloc (.cells #[.int .i64 id] 3)) w') := hx
    clear hx hv hfd h hp hpl
    go_enter Try.func41, Try.ntmps41
    go_wp2_with fail
    refine Calls.mono HX.out ?_
    rintro e w1 ⟨rfl, hb1⟩
    have B1 := bstep hb0 (Nat.le_refl _) hb1
    go_wp2
    go_ret2
    exact ⟨rfl, B1⟩
end Go.Proofs.Ytjbmkkoggocemaa
