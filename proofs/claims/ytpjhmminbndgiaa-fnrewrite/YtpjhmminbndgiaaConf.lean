/- CriticalPairs and IsConfluent, of the program and of the model. -/
import Derived.Test.YtpjhmminbndgiaaIPairsOf
import Derived.Test.YtpjhmminbndgiaaIEnd
namespace Go.Proofs.Ytpjhmminbndgiaa
open Go.RowKit
set_option linter.unusedVariables false
set_option linter.unusedSimpArgs false
set_option maxHeartbeats 8000000
set_option maxRecDepth 100000

/-- a slice of pairs that can be read -/
def PRow (w : World) (a : Option Addr) (ps : List (Tx × Tx)) : Prop := ps = [] ∨ ∃ b off, a = some ⟨b, off, none⟩ ∧ ∀ (k : Nat) x y, ps[k]? = some (x, y) → ∃ ib ic, w.cell? ⟨b, off + k, none⟩ = some (.slice (some ⟨ib, 0, none⟩) 2 ic) ∧ w.cell? ⟨ib, 0, none⟩ = some (.string (Sb x)) ∧ w.cell? ⟨ib, 1, none⟩ = some (.string (Sb y))
theorem PRow.below {w w' : World} {a : Option Addr} {ps : List (Tx × Tx)} (h : PRow w a ps) (hb : Below w.heap.size w w') : PRow w' a ps := by
  rcases h with h | ⟨b, off, rfl, hc⟩
  · exact .inl h
  · refine .inr ⟨b, off, rfl, fun k x y hk => ?_⟩
    obtain ⟨ib, ic, h1, h2, h3⟩ := hc k x y hk
    exact ⟨ib, ic, cell_below h1 hb, cell_below h2 hb, cell_below h3 hb⟩
theorem MadeP.row {w : World} {B n : Nat} {v : Value} {ys : List PV} (h : MadeP w B [] v n ys) : ∃ a c, v = .slice a n c ∧ PRow w a (pprs ys) := by
  have ho := h.2.1 ⟨32, 1, v, n, pvals ys⟩ (by simp)
  rcases ho.2 with ⟨h2, h0⟩ | ⟨g, cap, cur, h2, hB, hg, hn, hm, hsz, htk⟩
  · simp only [] at h2 h0
    subst h2
    refine ⟨none, 0, by rw [h0], .inl ?_⟩
    have := h.1
    rw [h0] at this
    have : ys = [] := List.eq_nil_of_length_eq_zero this.symm
    subst this; rfl
  · simp only [] at h2
    subst h2
    refine ⟨_, cap, rfl, .inr ⟨g, 0, rfl, fun k x y hk => ?_⟩⟩
    obtain ⟨z, hz, he⟩ : ∃ z, ys[k]? = some z ∧ (z.x, z.y) = (x, y) := by
      simp only [pprs, List.getElem?_map, Option.map_eq_some_iff] at hk
      exact hk
    injection he with e1 e2
    subst e1; subst e2
    have hzm := List.mem_of_getElem? hz
    have hrow := h.2.1 (rowP z) (by simp; exact .inr ⟨z, hzm, rfl⟩)
    have c1 := h.2.cell (x := ⟨32, 1, .slice (some ⟨g, 0, none⟩) n cap, n, pvals ys⟩) (by simp) rfl (j := k) (u := z.v) (by simp [pvals, hz])
    rcases hrow.2 with ⟨_, h0⟩ | ⟨ib, ic, cur2, hv, _⟩
    · simp [rowP] at h0
    · simp only [rowP] at hv
      refine ⟨ib, ic, by rw [Nat.zero_add, c1, hv], ?_, ?_⟩
      · exact h.2.cell (x := rowP z) (by simp; exact .inr ⟨z, hzm, rfl⟩) (by simp only [rowP, hv]; rfl) (j := 0) rfl
      · exact h.2.cell (x := rowP z) (by simp; exact .inr ⟨z, hzm, rfl⟩) (by simp only [rowP, hv]; rfl) (j := 1) rfl
theorem rule_len {l : List Rl} (hl : rulesB l = true) {r : Rl} (hr : r ∈ l) : r.1.length ≤ 6 ∧ r.2.length ≤ 6 ∧ r.2.length ≤ r.1.length := by
  have h1 : ruleB r = true := by simp only [rulesB, Bool.and_eq_true, List.all_eq_true] at hl; exact hl.2 r hr
  have h2 := rule_sl hl hr
  simp only [ruleB, okB, Bool.and_eq_true, decide_eq_true_eq] at h1
  simp only [slB, Bool.or_eq_true, Bool.and_eq_true, decide_eq_true_eq] at h2
  exact ⟨h1.1.1.1, h1.1.2.1, by omega⟩
theorem getD_mem {l : List Rl} {i : Nat} (h : i < l.length) : l.getD i ([], []) ∈ l := by
  rw [List.getD_eq_getElem?_getD, List.getElem?_eq_getElem h]; exact List.getElem_mem h
theorem pairs_small {l : List Rl} (hl : rulesB l = true) {x : Tx × Tx} (hx : x ∈ pairsB l) : x.1.length ≤ 12 ∧ x.2.length ≤ 12 := by
  unfold pairsB at hx
  simp only [List.mem_flatMap, List.mem_range] at hx
  obtain ⟨i, hi, j, hj, h⟩ := hx
  obtain ⟨a1, a2, a3⟩ := rule_len hl (getD_mem hi)
  obtain ⟨b1, b2, b3⟩ := rule_len hl (getD_mem hj)
  generalize l.getD i ([], []) = a at *
  generalize l.getD j ([], []) = b at *
  have hacr : x ∈ across a b → x.1.length ≤ 12 ∧ x.2.length ≤ 12 := by
    intro h
    unfold across at h
    simp only [List.mem_filterMap, List.mem_range] at h
    obtain ⟨k, hk, h⟩ := h
    split at h
    · simp only [Option.some.injEq] at h
      subst h
      simp only [List.length_append, List.length_drop, List.length_take]
      omega
    · exact absurd h (by simp)
  have hwit : x ∈ within a b → x.1.length ≤ 12 ∧ x.2.length ≤ 12 := by
    intro h
    unfold within at h
    simp only [List.mem_filterMap, List.mem_range, Option.map_eq_some_iff] at h
    obtain ⟨k, hk, v, hv, h⟩ := h
    subst h
    obtain ⟨p, q, _, h1, h2⟩ := (use_is (by omega)).1 hv
    have := congrArg List.length h1
    simp only [List.length_append] at this
    rw [h2]
    simp only [List.length_append]
    omega
  unfold pairs2 at h
  rcases List.mem_append.1 h with h | h
  · exact hacr h
  · split at h
    · simp at h
    · exact hwit h
/-- whether both texts of each pair come to one end, and whether each ends -/
def confL (l : List Rl) : Bool → List (Tx × Tx) → Bool × Bool
  | b, [] => (b, true)
  | b, p :: ps => if (joinV (normB false l 400 p.1) (normB false l 400 p.2)).2 then confL l (b && (joinV (normB false l 400 p.1) (normB false l 400 p.2)).1) ps else (false, false)
def isConf (xs : List RB) : Bool × Bool := if rulesB (Rs xs) then confL (Rs xs) true (pairsB (Rs xs)) else (false, false)
def crit (xs : List RB) : List (Tx × Tx) := if rulesB (Rs xs) then pairsB (Rs xs) else []
theorem confL_stop {l : List Rl} {b : Bool} {p : Tx × Tx} {ps : List (Tx × Tx)} (h : (joinV (normB false l 400 p.1) (normB false l 400 p.2)).2 = false) : confL l b (p :: ps) = (false, false) := by simp [confL, h]
theorem confL_step {l : List Rl} {b : Bool} {p : Tx × Tx} {ps : List (Tx × Tx)} (h : (joinV (normB false l 400 p.1) (normB false l 400 p.2)).2 = true) : confL l b (p :: ps) = confL l (b && (joinV (normB false l 400 p.1) (normB false l 400 p.2)).1) ps := by simp [confL, h]
theorem drop_at {α : Type} {xs : List α} {k : Nat} {x : α} (h : xs[k]? = some x) : xs.drop k = x :: xs.drop (k + 1) := by
  obtain ⟨hk, rfl⟩ := List.getElem?_eq_some_iff.1 h
  exact List.drop_eq_getElem_cons hk
theorem sCritical_any (a : Option Addr) (c : Nat) (xs : List RB) (w : World) (hl : xs.length ≤ 9223372036854775807) (hs : ∀ x ∈ xs, Short x) (h : RRow w a xs) :
    Calls Try.prog 28 #[.slice a xs.length c] w fun e w' => (∃ v n ys, e = .returned (.tuple #[v, .bool (rulesB (Rs xs))]) ∧ MadeP w' w.heap.size [] v n ys ∧ pprs ys = crit xs) ∧ Below w.heap.size w w' := by
  cases hg : rulesB (Rs xs) with
  | false =>
    have e : crit xs = [] := by simp [crit, hg]
    rw [e]
    go_enter Try.func28, Try.ntmps28
    go_wp2_with fail
    refine (sGood_any a c xs _ hl hs h).mono ?_
    rintro e w1 ⟨rfl, hb1⟩
    rw [hg]
    go_wp2
    go_ret2
    exact ⟨⟨_, 0, [], rfl, MadeP.nil _ _, rfl⟩, hb1⟩
  | true =>
    have e : crit xs = pairsB (Rs xs) := by simp [crit, hg]
    rw [e]
    go_enter Try.func28, Try.ntmps28
    go_wp2_with fail
    refine (sGood_any a c xs _ hl hs h).mono ?_
    rintro e w1 ⟨rfl, hb1⟩
    rw [hg]
    go_wp2_with fail
    refine (sCrit_any a c xs _ hg (h.below hb1)).mono ?_
    rintro e w2 ⟨⟨v, n, ys, rfl, hM, hP⟩, hb2⟩
    have HM := hid (And.intro hM hP)
    clear hM hP
    go_wp2
    go_ret2
    exact ⟨⟨v, n, ys, rfl, ⟨HM.out.1.1, HM.out.1.2.mono hb1.size⟩, HM.out.2⟩, bstep' hb1 hb2⟩
theorem iCritical_any (a : Option Addr) (c : Nat) (xs : List RB) (w : World) (hl : xs.length ≤ 9223372036854775807) (hs : ∀ x ∈ xs, Short x) (h : RRow w a xs) :
    Calls Try.prog 27 #[.slice a xs.length c] w fun e w' => (∃ v n ys, e = .returned (.tuple #[v, .bool (rulesB (Rs xs))]) ∧ MadeP w' w.heap.size [] v n ys ∧ pprs ys = crit xs) ∧ Below w.heap.size w w' := by
  obtain ⟨p, hp⟩ : ∃ p, rulesB (Rs xs) = p := ⟨_, rfl⟩
  obtain ⟨zs, hz⟩ : ∃ zs, (if p = true then xs else []) = zs := ⟨_, rfl⟩
  have hgz : rulesB (Rs zs) = true := by
    rw [← hz]
    cases p
    · rfl
    · exact hp
  have hcr : crit xs = pairsB (Rs zs) := by
    rw [← hz]
    unfold crit
    rw [hp]
    cases p <;> rfl
  rw [hcr, hp]
  go_enter Try.func27, Try.ntmps27
  go_wp2_with fail
  refine (rewritersOf_any a none c 0 xs [] _ hl hs h (by simp) (by simp) (.inl rfl) p zs (by rw [hp]; simp [textsB]) hz.symm).mono ?_
  rintro e w1 ⟨⟨ra, rc, rfl, hw1⟩, hb1⟩
  clear hcr hz hp
  go_wp2_with fail
  refine (iPairsOf_any ra rc zs _ hgz hw1).mono ?_
  rintro e w2 ⟨⟨v, n, ys, rfl, hM, hP⟩, hb2⟩
  have HM := hid (And.intro hM hP)
  clear hM hP
  go_wp2
  go_ret2
  exact ⟨⟨v, n, ys, rfl, ⟨HM.out.1.1, HM.out.1.2.mono hb1.size⟩, HM.out.2⟩, bstep' hb1 hb2⟩
end Go.Proofs.Ytpjhmminbndgiaa
