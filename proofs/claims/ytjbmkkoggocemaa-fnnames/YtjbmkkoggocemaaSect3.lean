/- What the laws' own helpers on slices of sections do: measuring, copying and comparing. -/
import Derived.Test.YtjbmkkoggocemaaSect2
import Derived.Deep.RegionWith
namespace Go.Proofs.Ytjbmkkoggocemaa
open Go.RowKit
set_option linter.unusedVariables false
set_option linter.unusedSimpArgs false

theorem below_of_drew {w w1 : World} (h : Below w.drew.heap.size w.drew w1) : Below w.heap.size w w1 := ⟨h.os, h.tape, h.output, h.size, h.block⟩

set_option maxHeartbeats 2000000 in
set_option maxRecDepth 100000 in
theorem eqSecs_same (a a' : Option Addr) (c c' : Nat) (xs : List Sec) (w : World) (hl : xs.length ≤ 9223372036854775807) (h : SRow w a xs) (h' : SRow w a' xs) :
    Calls Try.prog 27 #[.slice a xs.length c, .slice a' xs.length c'] w fun e w' => e = .returned (.bool true) ∧ Below w.heap.size w w' := by
  by_cases hx : xs = []
  · subst hx
    clear h h'
    go_enter Try.func27, Try.ntmps27
    go_wp2
    go_loopw [5] (fun t wr => t = .int .i64 0 ∧ wr = w) (fun t _ => 0)
    case atStart => exact ⟨rfl, rfl⟩
    case round =>
      obtain ⟨rfl, rfl⟩ := hrel
      go_wp2
      go_ret
      exact ⟨rfl, Below.refl _ _⟩
  · obtain ⟨b, off, rfl, hat⟩ := h.at hx
    have HA : Hid (_) := hat
    obtain ⟨b', off', rfl, hat'⟩ := h'.at hx
    have HA' : Hid (_) := hat'
    clear hat hat' hx h h'
    go_enter Try.func27, Try.ntmps27
    go_wp2
    go_loopw [5] (fun t wr => ∃ (k : Nat), t = .int .i64 k ∧ k ≤ xs.length ∧ Below w.heap.size w wr) (fun t _ => xs.length - (intOf t).toNat)
    case atStart => exact ⟨0, rfl, by omega, Below.refl _ _⟩
    case round =>
      obtain ⟨k, rfl, hk, hB⟩ := hrel
      by_cases hlt : k < xs.length
      · obtain ⟨i, s, c1, c2, hs, hbw, HX⟩ := HA.out wr hB k hlt
        obtain ⟨j, t, d1, d2, ht, hbw', HX'⟩ := HA'.out wr hB k hlt
        obtain ⟨rfl, rfl⟩ : i = j ∧ s = t := by
          have := HX.out.symm.trans HX'.out
          simp at this
          exact this
        go_wp2
        go_region_with (go_at_call 52; refine (eqSection_same i s _ (by omega)).mono ?_; rintro e w1 ⟨rfl, hb1⟩)
        all_goals
          go_wp2
          go_roundw
          case rel => exact ⟨k + 1, by go_num, by omega, bstep hB (Nat.le_refl _) (below_of_drew hb1)⟩
          case measure => simp [intOf]; omega
      · go_wp2
        go_ret
        exact ⟨rfl, hB⟩

/-- the laws' measure of sections: told, or too great -/
theorem szSecs_any (a : Option Addr) (c : Nat) (xs : List Sec) (w : World) (hl : xs.length ≤ 9223372036854775807) (h : SRow w a xs) :
    Calls Try.prog 23 #[.slice a xs.length c, .int .i64 1048576] w fun e w' => (∃ r, e = .returned (.int .i64 r) ∧ (r < 0 ∨ xs.length ≤ 1048576)) ∧ Below w.heap.size w w' := by
  by_cases h20 : xs.length ≤ 1048576
  · by_cases hx : xs = []
    · subst hx
      clear h
      go_enter Try.func23, Try.ntmps23
      go_wp2
      go_loopw [1, 5] (fun t1 t wr => t1 = .int .i64 1048576 ∧ t = .int .i64 0 ∧ wr = w) (fun _ t _ => 0)
      case atStart => exact ⟨rfl, rfl, rfl⟩
      case round =>
        obtain ⟨rfl, rfl, rfl⟩ := hrel
        go_wp2
        go_ret
        exact ⟨⟨_, rfl, .inr (by simp)⟩, Below.refl _ _⟩
    · obtain ⟨b, off, rfl, hat⟩ := h.at hx
      have HA : Hid (_) := hat
      clear hat hx h
      go_enter Try.func23, Try.ntmps23
      go_wp2
      go_loopw [1, 5] (fun t1 t wr => ∃ (r : Int) (k : Nat), t1 = .int .i64 r ∧ t = .int .i64 k ∧ 0 ≤ r ∧ r ≤ 1048576 ∧ k ≤ xs.length ∧ Below w.heap.size w wr) (fun _ t _ => xs.length - (intOf t).toNat)
      case atStart => exact ⟨_, 0, rfl, rfl, by omega, by omega, by omega, Below.refl _ _⟩
      case round =>
        obtain ⟨r, k, rfl, rfl, hr0, hr1, hk, hB⟩ := hrel
        by_cases hlt : k < xs.length
        · obtain ⟨i, s, c1, c2, hs, hbw, HX⟩ := HA.out wr hB k hlt
          have hz := fun w => szSection_any i s r w (by omega) hr0 hr1
          by_cases hrs : r < s.size
          · rw [if_pos hrs] at hz
            have HZ : Hid (∀ w, Calls Try.prog 37 #[.agg #[.int .i64 i, .string s], .int .i64 r] w fun e w' => e = .returned (.int .i64 (-1)) ∧ Below w.heap.size w w') := hz
            clear hz
            go_wp2_with (go_at_call 37; refine (HZ.out _).mono ?_; rintro e w1 ⟨rfl, hb1⟩)
            go_ret
            exact ⟨⟨_, rfl, .inl (by decide)⟩, bstep hB (Nat.le_refl _) hb1⟩
          · rw [if_neg hrs] at hz
            obtain ⟨r2, hr2, h20', h21⟩ : ∃ r2 : Int, r - (s.size : Int) = r2 ∧ 0 ≤ r2 ∧ r2 ≤ 1048576 := ⟨_, rfl, by omega, by omega⟩
            rw [hr2] at hz
            have HZ : Hid (∀ w, Calls Try.prog 37 #[.agg #[.int .i64 i, .string s], .int .i64 r] w fun e w' => e = .returned (.int .i64 r2) ∧ Below w.heap.size w w') := hz
            clear hz hr2
            go_wp2_with (go_at_call 37; refine (HZ.out _).mono ?_; rintro e w1 ⟨rfl, hb1⟩)
            go_roundw
            case rel => exact ⟨r2, k + 1, rfl, by go_num, h20', h21, by omega, bstep hB (Nat.le_refl _) hb1⟩
            case measure => simp [intOf]; omega
        · go_wp2
          go_ret
          exact ⟨⟨_, rfl, .inr h20⟩, hB⟩
  · clear h
    go_enter Try.func23, Try.ntmps23
    go_wp2
    go_ret
    exact ⟨⟨_, rfl, .inl (by decide)⟩, Below.refl _ _⟩

/-- the cells of sections -/
def flat (xs : List Sec) : List Value := xs.flatMap fun x => [.int .i64 x.1, .string x.2]
theorem flat_nil : flat [] = [] := rfl
theorem flat_length (xs : List Sec) : (flat xs).length = xs.length * 2 := by
  induction xs with
  | nil => rfl
  | cons x r ih => simp [flat] at ih ⊢; omega
theorem flat_append (xs ys : List Sec) : flat (xs ++ ys) = flat xs ++ flat ys := by simp [flat]
theorem flat_at (xs : List Sec) (k : Nat) (x : Sec) (h : xs[k]? = some x) : (flat xs)[k * 2]? = some (.int .i64 x.1) ∧ (flat xs)[k * 2 + 1]? = some (.string x.2) := by
  induction xs generalizing k with
  | nil => simp at h
  | cons y r ih =>
    have hf : flat (y :: r) = .int .i64 y.1 :: .string y.2 :: flat r := by simp [flat]
    cases k with
    | zero => simp at h; subst h; rw [hf]; simp
    | succ k =>
      simp at h
      have := ih k h
      rw [hf, show (k + 1) * 2 = k * 2 + 2 by omega]
      simpa using this

theorem info31 : (Try.prog.info? 31).map (fun i => (i.zero, i.size, i.bytes)) = some (some (.agg #[.int .i64 0, .string ⟨#[]⟩]), 2, 24) := by kernel_rfl
theorem info_parts {t : TypeId} {z : Value} {s b : Nat} (h : (Try.prog.info? t).map (fun i => (i.zero, i.size, i.bytes)) = some (some z, s, b)) : ∃ i, Try.prog.info? t = some i ∧ i.zero = some z ∧ i.size = s ∧ i.bytes = b := by
  cases hi : Try.prog.info? t with
  | none => rw [hi] at h; cases h
  | some i => rw [hi] at h; simp at h; exact ⟨i, rfl, h.1, h.2.1, h.2.2⟩
theorem grownBy_of_below {w w' : World} (h : Below w.heap.size w w') (row : Option Nat) : w.grownBy w' row := ⟨h.os, h.tape, h.output, h.size, fun k hk _ => h.block k hk⟩
theorem owns_below {w w' : World} {base : Nat} {e : TypeId} {size : Nat} {v : Value} {n : Nat} {xs : List Value} (h : w.ownsRow base e size v n xs) (hb : Below w.heap.size w w') : w'.ownsRow base e size v n xs := by
  cases hv : v.ownBlock with
  | none => exact h.kept (grownBy_of_below hb none) (.inl hv)
  | some k => exact h.kept (grownBy_of_below hb none) (.inr (by rw [hv]; intro h; cases h))
/-- what is owned can be read -/
theorem SRow.of_owned {w : World} {B : Nat} {v : Value} {xs : List Sec} (h : w.ownsRow B 31 2 v xs.length (flat xs)) (hs : ∀ x ∈ xs, x.2.size ≤ 9223372036854775807) : ∃ a cap, v = .slice a xs.length cap ∧ SRow w a xs := by
  rcases h.2 with ⟨rfl, h0⟩ | ⟨g, cap, cur, rfl, hB, hg, hn, hm, hsz, htk⟩
  · rw [h0]
    exact ⟨none, 0, rfl, .inl (List.eq_nil_of_length_eq_zero h0)⟩
  · refine ⟨_, cap, rfl, .inr ⟨g, 0, rfl, fun i hi => ?_⟩⟩
    have hx : xs[i]? = some xs[i] := by simp [hi]
    have hf := flat_at xs i _ hx
    refine ⟨xs[i], hx, hs _ (List.getElem_mem hi), ?_, ?_⟩
    · rw [Nat.zero_add, h.cellAt _ (by omega)]; exact hf.1
    · rw [Nat.zero_add, h.cellAt _ (by omega)]; exact hf.2
theorem SRow.sizes {w : World} {a : Option Addr} {xs : List Sec} (h : SRow w a xs) : ∀ x ∈ xs, x.2.size ≤ 9223372036854775807 := by
  intro x hx
  rcases h with rfl | ⟨b, off, rfl, hc⟩
  · cases hx
  · obtain ⟨i, hi, rfl⟩ := List.mem_iff_getElem.1 hx
    obtain ⟨y, h1, h2, _⟩ := hc i hi
    simp [hi] at h1
    rw [h1]; exact h2

theorem set2_take (cells : List Value) (j : Nat) (A : List Value) (u v : Value) (hA : cells.take (j * 2) = A) (hl : j * 2 + 2 ≤ cells.length) : ((cells.set (j * 2) u).set (j * 2 + 1) v).take ((j + 1) * 2) = A ++ [u, v] := by
  subst hA
  apply List.ext_getElem?
  intro i
  simp only [List.getElem?_take, List.getElem?_append, List.getElem?_set, List.length_take, List.length_set]
  by_cases h1 : i < j * 2
  · have : i < (j + 1) * 2 := by omega
    have h2 : ¬ j * 2 + 1 = i := by omega
    have h3 : ¬ j * 2 = i := by omega
    have h4 : i < min (j * 2) cells.length := by omega
    simp [h1, this, h2, h3, h4]
  · by_cases h2 : i = j * 2
    · subst h2
      have h4 : min (j * 2) cells.length = j * 2 := by omega
      have h5 : j * 2 < (j + 1) * 2 := by omega
      have h6 : j * 2 < cells.length := by omega
      simp [h4, h5, h6]
    · by_cases h3 : i = j * 2 + 1
      · subst h3
        have h4 : min (j * 2) cells.length = j * 2 := by omega
        have h5 : j * 2 + 1 < (j + 1) * 2 := by omega
        have h6 : j * 2 + 1 < cells.length := by omega
        simp [h4, h5, h6]
        intro h; omega
      · have h5 : ¬ i < (j + 1) * 2 := by omega
        have h4 : min (j * 2) cells.length = j * 2 := by omega
        have h6 : ¬ i < j * 2 := by omega
        simp [h4, h5, h6]
        omega

theorem flat_take_succ {xs : List Sec} {j : Nat} {i : Int} {s : ByteArray} (h : xs[j]? = some (i, s)) : flat (xs.take (j + 1)) = flat (xs.take j) ++ [.int .i64 i, .string s] := by
  rw [List.take_add_one, h, flat_append]
  rfl

set_option maxHeartbeats 2000000 in
set_option maxRecDepth 100000 in
/-- the laws' copy of a slice of sections -/
theorem toSecs_any (a : Option Addr) (c : Nat) (xs : List Sec) (w : World) (hl : xs.length ≤ 1048576) (h : SRow w a xs) :
    Calls Try.prog 25 #[.slice a xs.length c] w fun e w' => ∃ v, e = .returned v ∧ w'.ownsRow w.heap.size 31 2 v xs.length (flat xs) ∧ Below w.heap.size w w' := by
  obtain ⟨i0, hi, hz0, hz1, hz2⟩ := info_parts info31
  by_cases hx : xs = []
  · subst hx
    clear h
    go_enter Try.func25, Try.ntmps25
    go_wp2_with (at_make; refine wpList_make_full _ rfl _ _ 23 rfl w.heap.size 31 i0 (.agg #[.int .i64 0, .string ⟨#[]⟩]) 2 Try.underlying23 hi hz0 hz1 .i64 .i64 _ _ 0 rfl rfl rfl rfl ?c1 ?c2 ?c3 ?_)
    case c1 => omega
    case c2 => unfold maxLen; omega
    case c3 => omega
    intro w1 hown0 hgrow0
    have hB0 : Below w.heap.size w w1 := (Below.refl _ w).grown hgrow0 (Nat.le_refl _) (fun k hk => by cases hk)
    go_wp2
    go_loopw [4] (fun t wr => t = .int .i64 0 ∧ wr = w1) (fun t _ => 0)
    case atStart => exact ⟨rfl, rfl⟩
    case round =>
      obtain ⟨rfl, rfl⟩ := hrel
      go_wp2
      go_ret
      refine ⟨_, rfl, ?_, hB0⟩
      simpa [flat, madeCells] using hown0
  · obtain ⟨b, off, rfl, hat⟩ := h.at hx
    have HA : Hid (_) := hat
    clear hat hx h
    go_enter Try.func25, Try.ntmps25
    go_wp2_with (at_make; refine wpList_make_full _ rfl _ _ 23 rfl w.heap.size 31 i0 (.agg #[.int .i64 0, .string ⟨#[]⟩]) 2 Try.underlying23 hi hz0 hz1 .i64 .i64 _ _ xs.length rfl rfl rfl rfl ?c1 ?c2 ?c3 ?_)
    case c1 => rw [hz2]; omega
    case c2 => unfold maxLen; omega
    case c3 => omega
    intro w1 hown0 hgrow0
    have hB0 : Below w.heap.size w w1 := (Below.refl _ w).grown hgrow0 (Nat.le_refl _) (fun k hk => by cases hk)
    go_wp2
    go_loopw [4] (fun t wr => ∃ (j : Nat) (cells : List Value), t = .int .i64 j ∧ j ≤ xs.length ∧ wr.ownsRow w.heap.size 31 2 (.slice (some ⟨w.heap.size, 0, none⟩) xs.length xs.length) xs.length cells ∧ cells.take (j * 2) = flat (xs.take j) ∧ Below w.heap.size w wr) (fun t _ => xs.length - (intOf t).toNat)
    case atStart => exact ⟨0, _, rfl, by omega, hown0, by simp [flat], hB0⟩
    case round =>
      obtain ⟨j, cells, rfl, hj, hown, htk, hB⟩ := hrel
      have HT : Hid (cells.take (j * 2) = flat (xs.take j)) := htk
      clear hown0 hgrow0 hB0 htk
      by_cases hlt : j < xs.length
      · obtain ⟨i, s, c1, c2, hs, hbw, HX⟩ := HA.out wr hB j hlt
        go_wp2_with fail
        refine (toSection_any _ _ _).mono ?_
        rintro e w2 ⟨rfl, hb2⟩
        have hown2 := owns_below hown hb2
        have hB2 := bstep hB (Nat.le_refl _) hb2
        have hlen : cells.length = xs.length * 2 := hown.1
        obtain ⟨u0, hu0⟩ : ∃ u, w2.cell? ⟨w.heap.size, j * 2, none⟩ = some u := by
          rw [hown2.cellAt (j * 2) (by omega)]
          exact ⟨_, List.getElem?_eq_getElem (by omega)⟩
        obtain ⟨u1, hu1⟩ : ∃ u, w2.cell? ⟨w.heap.size, j * 2 + 1, none⟩ = some u := by
          rw [hown2.cellAt (j * 2 + 1) (by omega)]
          exact ⟨_, List.getElem?_eq_getElem (by omega)⟩
        have f0 := hown2.frozenAt (j * 2)
        have f1 := hown2.frozenAt (j * 2 + 1)
        have HL : Hid (cells.length = xs.length * 2) := hlen
        clear hlen hown
        go_wp2
        go_roundw
        case rel =>
          refine ⟨j + 1, _, by go_num, by omega, ((hown2.stored (j * 2) _).1.stored (j * 2 + 1) _).1, ?_, (hB2.setCell (p := ⟨w.heap.size, j * 2, none⟩) (Nat.le_refl _) _).setCell (p := ⟨w.heap.size, j * 2 + 1, none⟩) (Nat.le_refl _) _⟩
          rw [set2_take cells j _ _ _ HT.out (by rw [HL.out]; omega), flat_take_succ HX.out]
        case measure => simp [intOf]; omega
      · obtain rfl : j = xs.length := by omega
        go_wp2
        go_ret
        refine ⟨_, rfl, ?_, hB⟩
        have h1 := HT.out
        rw [List.take_of_length_le (by rw [hown.1]; exact Nat.le_refl _), List.take_of_length_le (Nat.le_refl _)] at h1
        rw [← h1]
        exact hown
end Go.Proofs.Ytjbmkkoggocemaa
