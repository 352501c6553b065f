/- What the laws' own helpers on slices of rules do: measuring, copying and comparing. -/
import Derived.Test.YtpjhmminbndgiaaGood
import Derived.Deep.RegionWith
import Derived.Deep.SlicePairs
import Derived.OpenShut
namespace Go.Proofs.Ytpjhmminbndgiaa
open Go.RowKit
set_option linter.unusedVariables false
set_option linter.unusedSimpArgs false
set_option maxHeartbeats 2000000
set_option maxRecDepth 100000

theorem eqRule_same (f t : ByteArray) (w : World) :
    Calls Try.prog 65 #[.agg #[.string f, .string t], .agg #[.string f, .string t]] w fun e w' => e = .returned (.bool true) ∧ Below w.heap.size w w' := by
  go_enter Try.func65, Try.ntmps65
  go_wp2
  go_ret
  exact ⟨rfl, ((Below.refl _ w).alloc (Nat.le_refl _) _).alloc (by simp) _⟩
theorem toRule_any (f t : ByteArray) (w : World) :
    Calls Try.prog 64 #[.agg #[.string f, .string t]] w fun e w' => e = .returned (.agg #[.string f, .string t]) ∧ Below w.heap.size w w' := by
  go_enter Try.func64, Try.ntmps64
  go_wp2
  refine bodyPost_ret (v := .agg #[.string f, .string t]) (by simp [results, Try.results64, go_sem]) rfl ⟨rfl, ?_⟩
  exact (((Below.refl _ w).alloc (Nat.le_refl _) _).alloc (by simp) _).alloc (by simp; omega) _
theorem szRule_any (f t : ByteArray) (l : Int) (w : World) (hf : f.size ≤ 9223372036854775807) (ht : t.size ≤ 9223372036854775807) (hl : 0 ≤ l) (hl2 : l ≤ 1048576) :
    Calls Try.prog 63 #[.agg #[.string f, .string t], .int .i64 l] w fun e w' => (∃ r : Int, e = .returned (.int .i64 r) ∧ r ≤ l ∧ (0 ≤ r → f.size ≤ 1048576 ∧ t.size ≤ 1048576)) ∧ Below w.heap.size w w' := by
  by_cases h : l < f.size
  · go_enter Try.func63, Try.ntmps63
    go_wp2
    go_ret
    exact ⟨⟨_, rfl, by omega, fun h => absurd h (by decide)⟩, (Below.refl _ w).alloc (Nat.le_refl _) _⟩
  · by_cases h2 : l - f.size < t.size
    · go_enter Try.func63, Try.ntmps63
      go_wp2
      go_ret
      exact ⟨⟨_, rfl, by omega, fun h => absurd h (by decide)⟩, (Below.refl _ w).alloc (Nat.le_refl _) _⟩
    · go_enter Try.func63, Try.ntmps63
      go_wp2
      go_ret
      exact ⟨⟨_, rfl, by omega, fun h => by omega⟩, (Below.refl _ w).alloc (Nat.le_refl _) _⟩

theorem eqRules_same (a a' : Option Addr) (c c' : Nat) (xs : List RB) (w : World) (hl : xs.length ≤ 9223372036854775807) (h : RRow w a xs) (h' : RRow w a' xs) :
    Calls Try.prog 37 #[.slice a xs.length c, .slice a' xs.length c'] w fun e w' => e = .returned (.bool true) ∧ Below w.heap.size w w' := by
  by_cases hx : xs = []
  · subst hx
    clear h h'
    go_enter Try.func37, Try.ntmps37
    go_wp2
    go_loopw [5] (fun t wr => t = .int .i64 0 ∧ wr = w) (fun t _ => 0)
    case atStart => exact ⟨rfl, rfl⟩
    case round =>
      obtain ⟨rfl, rfl⟩ := hrel
      go_wp2
      go_ret
      exact ⟨rfl, Below.refl _ _⟩
  · obtain ⟨b, off, rfl, hbw, hat⟩ := h.at hx
    have HA : Hid (_) := hat
    obtain ⟨b', off', rfl, hbw', hat'⟩ := h'.at hx
    have HA' : Hid (_) := hat'
    clear hat hat' hx h h'
    go_enter Try.func37, Try.ntmps37
    go_wp2
    go_loopw [5] (fun t wr => ∃ (k : Nat), t = .int .i64 k ∧ k ≤ xs.length ∧ Below w.heap.size w wr) (fun t _ => xs.length - (intOf t).toNat)
    case atStart => exact ⟨0, rfl, by omega, Below.refl _ _⟩
    case round =>
      obtain ⟨k, rfl, hk, hB⟩ := hrel
      by_cases hlt : k < xs.length
      · obtain ⟨i, s, c1, c2, HX⟩ := HA.out wr hB k hlt
        obtain ⟨j, t, d1, d2, HX'⟩ := HA'.out wr hB k hlt
        obtain ⟨rfl, rfl⟩ : i = j ∧ s = t := by
          have := HX.out.symm.trans HX'.out
          simp at this
          exact this
        have hbr : b < wr.heap.size := Nat.lt_of_lt_of_le hbw hB.size
        have hbr' : b' < wr.heap.size := Nat.lt_of_lt_of_le hbw' hB.size
        go_wp2
        go_region_with (go_at_call 65; refine (eqRule_same i s _).mono ?_; rintro e w1 ⟨rfl, hb1⟩)
        all_goals
          go_wp2
          go_roundw
          case rel => exact ⟨k + 1, by go_num, by omega, bstep hB hB.size (below_of_drew hb1)⟩
          case measure => simp [intOf]; omega
      · go_wp2
        go_ret
        exact ⟨rfl, hB⟩

/-- texts that are no longer than so -/
def Fit (n : Nat) (xs : List RB) : Prop := ∀ x ∈ xs, x.1.size ≤ n ∧ x.2.size ≤ n
theorem Fit.take_succ {n k : Nat} {xs : List RB} {i s : ByteArray} (h : Fit n (xs.take k)) (hx : xs[k]? = some (i, s)) (h1 : i.size ≤ n ∧ s.size ≤ n) : Fit n (xs.take (k + 1)) := by
  intro x hm
  rw [List.take_add_one, hx] at hm
  rcases List.mem_append.1 hm with hm | hm
  · exact h x hm
  · simp at hm; subst hm; exact h1
/-- the laws' measure of rules: told, or too great -/
theorem szRules_any (a : Option Addr) (c : Nat) (xs : List RB) (w : World) (hl : xs.length ≤ 9223372036854775807) (hs : ∀ x ∈ xs, Short x) (h : RRow w a xs) :
    Calls Try.prog 34 #[.slice a xs.length c, .int .i64 1048576] w fun e w' => (∃ r, e = .returned (.int .i64 r) ∧ (r < 0 ∨ (xs.length ≤ 1048576 ∧ Fit 1048576 xs))) ∧ Below w.heap.size w w' := by
  by_cases h20 : xs.length ≤ 1048576
  · by_cases hx : xs = []
    · subst hx
      clear h
      go_enter Try.func34, Try.ntmps34
      go_wp2
      go_loopw [1, 5] (fun t1 t wr => t1 = .int .i64 1048576 ∧ t = .int .i64 0 ∧ wr = w) (fun _ t _ => 0)
      case atStart => exact ⟨rfl, rfl, rfl⟩
      case round =>
        obtain ⟨rfl, rfl, rfl⟩ := hrel
        go_wp2
        go_ret
        exact ⟨⟨_, rfl, .inr (by simp [Fit])⟩, Below.refl _ _⟩
    · obtain ⟨b, off, rfl, hbw, hat⟩ := h.at hx
      have HA : Hid (_) := hat
      clear hat hx h
      go_enter Try.func34, Try.ntmps34
      go_wp2
      go_loopw [1, 5] (fun t1 t wr => ∃ (r : Int) (k : Nat), t1 = .int .i64 r ∧ t = .int .i64 k ∧ 0 ≤ r ∧ r ≤ 1048576 ∧ k ≤ xs.length ∧ Fit 1048576 (xs.take k) ∧ Below w.heap.size w wr) (fun _ t _ => xs.length - (intOf t).toNat)
      case atStart => exact ⟨_, 0, rfl, rfl, by omega, by omega, by omega, by simp [Fit], Below.refl _ _⟩
      case round =>
        obtain ⟨r, k, rfl, rfl, hr0, hr1, hk, hF, hB⟩ := hrel
        by_cases hlt : k < xs.length
        · obtain ⟨i, s, c1, c2, HX⟩ := HA.out wr hB k hlt
          have hft := short_at hs HX.out
          go_wp2_with fail
          refine (szRule_any i s r _ hft.1 hft.2 hr0 hr1).mono ?_
          rintro e w1 ⟨⟨r2, rfl, hr2, hr3⟩, hb1⟩
          by_cases hrs : r2 < 0
          · go_wp2
            go_ret
            exact ⟨⟨_, rfl, .inl (by decide)⟩, bstep hB hB.size hb1⟩
          · have HF : Hid (Fit 1048576 (xs.take (k + 1))) := hF.take_succ HX.out (hr3 (by omega))
            clear hr3
            go_wp2
            go_roundw
            case rel => exact ⟨r2, k + 1, rfl, by go_num, by omega, by omega, by omega, HF.out, bstep hB hB.size hb1⟩
            case measure => simp [intOf]; omega
        · go_wp2
          go_ret
          refine ⟨⟨_, rfl, .inr ⟨h20, ?_⟩⟩, hB⟩
          rw [List.take_of_length_le (by omega)] at hF
          exact hF
  · clear h
    go_enter Try.func34, Try.ntmps34
    go_wp2
    go_ret
    exact ⟨⟨_, rfl, .inl (by decide)⟩, Below.refl _ _⟩

/-- the cells of sections -/
def flat (xs : List RB) : List Value := xs.flatMap fun x => [.string x.1, .string x.2]
theorem flat_nil : flat [] = [] := rfl
theorem flat_length (xs : List RB) : (flat xs).length = xs.length * 2 := by
  induction xs with
  | nil => rfl
  | cons x r ih => simp [flat] at ih ⊢; omega
theorem flat_append (xs ys : List RB) : flat (xs ++ ys) = flat xs ++ flat ys := by simp [flat]
theorem flat_at (xs : List RB) (k : Nat) (x : RB) (h : xs[k]? = some x) : (flat xs)[k * 2]? = some (.string x.1) ∧ (flat xs)[k * 2 + 1]? = some (.string x.2) := by
  induction xs generalizing k with
  | nil => simp at h
  | cons y r ih =>
    have hf : flat (y :: r) = .string y.1 :: .string y.2 :: flat r := by simp [flat]
    cases k with
    | zero => simp at h; subst h; rw [hf]; simp
    | succ k =>
      simp at h
      have := ih k h
      rw [hf, show (k + 1) * 2 = k * 2 + 2 by omega]
      simpa using this

theorem info82 : (Try.prog.info? 82).map (fun i => (i.zero, i.size, i.bytes)) = some (some (.agg #[.string ⟨#[]⟩, .string ⟨#[]⟩]), 2, 32) := by kernel_rfl
/-- what is owned can be read -/
theorem RRow.of_owned {w : World} {B : Nat} {v : Value} {xs : List RB} (h : w.ownsRow B 82 2 v xs.length (flat xs))   : ∃ a cap, v = .slice a xs.length cap ∧ RRow w a xs := by
  rcases h.2 with ⟨rfl, h0⟩ | ⟨g, cap, cur, rfl, hB, hg, hn, hm, hsz, htk⟩
  · rw [h0]
    exact ⟨none, 0, rfl, .inl (List.eq_nil_of_length_eq_zero h0)⟩
  · refine ⟨_, cap, rfl, .inr ⟨g, 0, rfl, fun i hi => ?_⟩⟩
    have hx : xs[i]? = some xs[i] := by simp [hi]
    have hf := flat_at xs i _ hx
    refine ⟨xs[i], hx, ?_, ?_⟩
    · rw [Nat.zero_add, h.cellAt _ (by omega)]; exact hf.1
    · rw [Nat.zero_add, h.cellAt _ (by omega)]; exact hf.2
theorem set2_take (cells : List Value) (j : Nat) (A : List Value) (u v : Value) (hA : cells.take (j * 2) = A) (hl : j * 2 + 2 ≤ cells.length) : ((cells.set (j * 2) u).set (j * 2 + 1) v).take ((j + 1) * 2) = A ++ [u, v] := by
  subst hA
  apply List.ext_getElem?
  intro i
  simp only [List.getElem?_take, List.getElem?_append, List.getElem?_set, List.length_take, List.length_set]
  by_cases h1 : i < j * 2
  · have : i < (j + 1) * 2 := by omega
    have h2 : ¬ j * 2 + 1 = i := by omega
    have h3 : ¬ j * 2 = i := by omega
    have h4 : i < min (j * 2) cells.length := by omega
    simp [h1, this, h2, h3, h4]
  · by_cases h2 : i = j * 2
    · subst h2
      have h4 : min (j * 2) cells.length = j * 2 := by omega
      have h5 : j * 2 < (j + 1) * 2 := by omega
      have h6 : j * 2 < cells.length := by omega
      simp [h4, h5, h6]
    · by_cases h3 : i = j * 2 + 1
      · subst h3
        have h4 : min (j * 2) cells.length = j * 2 := by omega
        have h5 : j * 2 + 1 < (j + 1) * 2 := by omega
        have h6 : j * 2 + 1 < cells.length := by omega
        simp [h4, h5, h6]
        intro h; omega
      · have h5 : ¬ i < (j + 1) * 2 := by omega
        have h4 : min (j * 2) cells.length = j * 2 := by omega
        have h6 : ¬ i < j * 2 := by omega
        simp [h4, h5, h6]
        omega

theorem flat_take_succ {xs : List RB} {j : Nat} {i s : ByteArray} (h : xs[j]? = some (i, s)) : flat (xs.take (j + 1)) = flat (xs.take j) ++ [.string i, .string s] := by
  rw [List.take_add_one, h, flat_append]
  rfl

/-- the laws' copy of a slice of sections -/
theorem toRules_any (a : Option Addr) (c : Nat) (xs : List RB) (w : World) (hl : xs.length ≤ 1048576) (h : RRow w a xs) :
    Calls Try.prog 36 #[.slice a xs.length c] w fun e w' => ∃ v, e = .returned v ∧ w'.ownsRow w.heap.size 82 2 v xs.length (flat xs) ∧ Below w.heap.size w w' := by
  obtain ⟨i0, hi, hz0, hz1, hz2⟩ := info_parts info82
  by_cases hx : xs = []
  · subst hx
    clear h
    go_enter Try.func36, Try.ntmps36
    go_wp2_with (at_make; refine wpList_make_full _ rfl _ _ 23 rfl w.heap.size 82 i0 (.agg #[.string ⟨#[]⟩, .string ⟨#[]⟩]) 2 Try.underlying23 hi hz0 hz1 .i64 .i64 _ _ 0 rfl rfl rfl rfl ?c1 ?c2 ?c3 ?_)
    case c1 => omega
    case c2 => unfold maxLen; omega
    case c3 => omega
    intro w1 hown0 hgrow0
    have hB0 : Below w.heap.size w w1 := (Below.refl _ w).grown hgrow0 (Nat.le_refl _) (fun k hk => by cases hk)
    go_wp2
    go_loopw [4] (fun t wr => t = .int .i64 0 ∧ wr = w1) (fun t _ => 0)
    case atStart => exact ⟨rfl, rfl⟩
    case round =>
      obtain ⟨rfl, rfl⟩ := hrel
      go_wp2
      go_ret
      refine ⟨_, rfl, ?_, hB0⟩
      simpa [flat, madeCells] using hown0
  · obtain ⟨b, off, rfl, hbw, hat⟩ := h.at hx
    have HA : Hid (_) := hat
    clear hat hx h
    go_enter Try.func36, Try.ntmps36
    go_wp2_with (at_make; refine wpList_make_full _ rfl _ _ 23 rfl w.heap.size 82 i0 (.agg #[.string ⟨#[]⟩, .string ⟨#[]⟩]) 2 Try.underlying23 hi hz0 hz1 .i64 .i64 _ _ xs.length rfl rfl rfl rfl ?c1 ?c2 ?c3 ?_)
    case c1 => rw [hz2]; omega
    case c2 => unfold maxLen; omega
    case c3 => omega
    intro w1 hown0 hgrow0
    have hB0 : Below w.heap.size w w1 := (Below.refl _ w).grown hgrow0 (Nat.le_refl _) (fun k hk => by cases hk)
    go_wp2
    go_loopw [4] (fun t wr => ∃ (j : Nat) (cells : List Value), t = .int .i64 j ∧ j ≤ xs.length ∧ wr.ownsRow w.heap.size 82 2 (.slice (some ⟨w.heap.size, 0, none⟩) xs.length xs.length) xs.length cells ∧ cells.take (j * 2) = flat (xs.take j) ∧ Below w.heap.size w wr) (fun t _ => xs.length - (intOf t).toNat)
    case atStart => exact ⟨0, _, rfl, by omega, hown0, by simp [flat], hB0⟩
    case round =>
      obtain ⟨j, cells, rfl, hj, hown, htk, hB⟩ := hrel
      have HT : Hid (cells.take (j * 2) = flat (xs.take j)) := htk
      clear hown0 hgrow0 hB0 htk
      by_cases hlt : j < xs.length
      · obtain ⟨i, s, c1, c2, HX⟩ := HA.out wr hB j hlt
        go_wp2_with fail
        refine (toRule_any _ _ _).mono ?_
        rintro e w2 ⟨rfl, hb2⟩
        have hown2 := owns_below hown hb2
        have hB2 := bstep hB hB.size hb2
        have hlen : cells.length = xs.length * 2 := hown.1
        obtain ⟨u0, hu0⟩ : ∃ u, w2.cell? ⟨w.heap.size, j * 2, none⟩ = some u := by
          rw [hown2.cellAt (j * 2) (by omega)]
          exact ⟨_, List.getElem?_eq_getElem (by omega)⟩
        obtain ⟨u1, hu1⟩ : ∃ u, w2.cell? ⟨w.heap.size, j * 2 + 1, none⟩ = some u := by
          rw [hown2.cellAt (j * 2 + 1) (by omega)]
          exact ⟨_, List.getElem?_eq_getElem (by omega)⟩
        have f0 := hown2.frozenAt (j * 2)
        have f1 := hown2.frozenAt (j * 2 + 1)
        have HL : Hid (cells.length = xs.length * 2) := hlen
        clear hlen hown
        go_wp2
        go_roundw
        case rel =>
          refine ⟨j + 1, _, by go_num, by omega, ((hown2.stored (j * 2) _).1.stored (j * 2 + 1) _).1, ?_, (hB2.setCell (p := ⟨w.heap.size, j * 2, none⟩) (Nat.le_refl _) _).setCell (p := ⟨w.heap.size, j * 2 + 1, none⟩) (Nat.le_refl _) _⟩
          rw [set2_take cells j _ _ _ HT.out (by rw [HL.out]; omega), flat_take_succ HX.out]
        case measure => simp [intOf]; omega
      · obtain rfl : j = xs.length := by omega
        go_wp2
        go_ret
        refine ⟨_, rfl, ?_, hB⟩
        have h1 := HT.out
        rw [List.take_of_length_le (by rw [hown.1]; exact Nat.le_refl _), List.take_of_length_le (Nat.le_refl _)] at h1
        rw [← h1]
        exact hown
theorem cellsOf82 : Try.prog.cellsOf 87 = 2 := by kernel_rfl
theorem cellsOf9 : Try.prog.cellsOf 9 = 1 := by kernel_rfl
def strOf : Value → ByteArray
  | .string s => s
  | _ => ⟨#[]⟩
open Go.ChangeShapes Go.WideShapes Go.Deep in
theorem rules_of_arg {H : Type} {enc : TypeId × Value → H} {w : World} {base : Nat} {held : Bool} {v : Value} {d : DataW H} {p : List MemPlace} (h : DataW.Trod enc Try.prog w base (fun _ => true) held 48 v d p) (hv : ∃ a len cap, v = .slice a len cap) :
    ∃ (a : Option Addr) (cap : Nat) (xs : List RB), v = .slice a xs.length cap ∧ xs.length ≤ 9223372036854775807 ∧ (∀ x ∈ xs, Short x) ∧ RRow w a xs := by
  obtain ⟨a0, len0, cap0, rfl⟩ := hv
  obtain ⟨fuel, hf⟩ := h
  rcases open_slice_pairs Try.underlying48 Try.underlying87 cellsOf82 rfl rfl cellsOf9 cellsOf9 hf with ⟨hcs, _⟩ | ⟨a, len, cap, m, n, V0, V1, D0, D1, P0, P1, hcs, _, hl, hm, hmm, _, hx⟩
  · simp [Value.cells] at hcs
    obtain ⟨rfl, rfl, rfl⟩ := hcs
    exact ⟨none, 0, [], rfl, by simp, by simp, .inl rfl⟩
  · simp [Value.cells] at hcs
    obtain ⟨rfl, rfl, rfl⟩ := hcs
    have hlm : len0 ≤ m := by rw [hmm]; split <;> omega
    have hsec : ∀ i, i < len0 → ∃ (k s : ByteArray), V0 i = .string k ∧ V1 i = .string s ∧ k.size ≤ 9223372036854775807 ∧ s.size ≤ 9223372036854775807 ∧ w.cell? (a.add (i * 2)) = some (V0 i) ∧ w.cell? (a.add (i * 2 + 1)) = some (V1 i) := by
      intro i hi
      obtain ⟨g0, g1, g2, g3⟩ := hx i (by omega)
      obtain ⟨k, e0, _, hk⟩ := DataW.trod_string Try.underlying9 g2
      obtain ⟨s, e1, _, hs⟩ := DataW.trod_string Try.underlying9 g3
      simp at e0 e1
      exact ⟨k, s, e0, e1, by unfold maxLen at hk; omega, by unfold maxLen at hs; omega, g0, g1⟩
    refine ⟨some a, cap0, (List.range len0).map fun i => (strOf (V0 i), strOf (V1 i)), by simp, by unfold maxLen at hm; simp; omega, ?_, ?_⟩
    · intro x hx'
      simp only [List.mem_map, List.mem_range] at hx'
      obtain ⟨i, hi, rfl⟩ := hx'
      obtain ⟨k, s, e0, e1, h0, h1, _⟩ := hsec i hi
      rw [e0, e1]
      exact ⟨h0, h1⟩
    by_cases h0 : len0 = 0
    · subst h0; exact .inl (by simp)
    obtain ⟨b, off, spot⟩ := a
    have hspot : spot = none := by
      obtain ⟨k, s, _, _, _, _, g0, _⟩ := hsec 0 (by omega)
      simpa [Addr.add] using World.cell?_spot g0
    subst hspot
    have hplain : ∀ j, (⟨b, off, none⟩ : Addr).add j = ⟨b, off + j, none⟩ := by intro j; unfold Addr.add; split <;> simp_all
    refine .inr ⟨b, off, rfl, fun i hi => ?_⟩
    simp at hi
    obtain ⟨k, s, e0, e1, _, _, g0, g1⟩ := hsec i hi
    rw [hplain] at g0 g1
    refine ⟨(k, s), ?_, by rw [g0, e0], by rw [Nat.add_assoc, g1, e1]⟩
    simp [hi, e0, e1, strOf]
end Go.Proofs.Ytpjhmminbndgiaa
