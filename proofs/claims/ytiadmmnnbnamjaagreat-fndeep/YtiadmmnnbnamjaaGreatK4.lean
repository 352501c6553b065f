/- Plain facts on the loops of a graph: heads dominate, loops that meet lie one in the other, and who comes in comes in by the head. -/
import Derived.Test.YtiadmmnnbnamjaaGreatJ2
namespace Go.Proofs.YtiadmmnnbnamjaaGreat
section
set_option linter.unusedVariables false

/-- two that dominate each other are one -/
theorem Dom.anti {g : List (List Nat)} {a b : Nat} (h : Dom g a b) (k : Dom g b a) : a = b := by
  refine Classical.byContradiction fun hne => ?_
  have ha0 : a ≠ 0 := fun e => by subst e; exact hne (Dom.zero k).symm
  have hb0 : b ≠ 0 := fun e => by subst e; exact hne (Dom.zero h)
  have key : ∀ x, Come g x → RchW g a x ∧ RchW g b x := by
    intro x hx
    unfold Come at hx
    induction hx with
    | start _ => exact ⟨.start (by omega), .start (by omega)⟩
    | @step i j l hi hl hj _ ih =>
      by_cases ea : j = a
      · subst ea
        exact absurd (RchW.step ih.2 hl hj (by omega)) k.2.2
      · by_cases eb : j = b
        · subst eb
          exact absurd (RchW.step ih.1 hl hj (by omega)) h.2.2
        · exact ⟨.step ih.1 hl hj (by omega), .step ih.2 hl hj (by omega)⟩
  exact (key a h.2.1).1.ne rfl
/-- of two that dominate a node one dominates the other -/
theorem Dom.line {g : List (List Nat)} {a b k : Nat} (h : Dom g a k) (h' : Dom g b k) : Dom g a b ∨ Dom g b a := by
  refine Classical.byContradiction fun hn => ?_
  have h1 : RchW g a b := Classical.byContradiction fun hr => hn (.inl ⟨h'.2.1, h.2.1, hr⟩)
  have h2 : RchW g b a := Classical.byContradiction fun hr => hn (.inr ⟨h.2.1, h'.2.1, hr⟩)
  have hab : a ≠ b := fun e => by subst e; exact h1.ne rfl
  have key : ∀ x, Come g x → RchW g a x ∨ RchW g b x := by
    intro x hx
    unfold Come at hx
    induction hx with
    | start _ =>
      by_cases e : a = 0
      · exact .inr (.start (by omega))
      · exact .inl (.start (by omega))
    | @step i j l hi hl hj _ ih =>
      rcases ih with ih | ih
      · by_cases e : j = a
        · subst e; exact .inr h2
        · exact .inl (.step ih hl hj (by omega))
      · by_cases e : j = b
        · subst e; exact .inl h1
        · exact .inr (.step ih hl hj (by omega))
  rcases key k h.1 with r | r
  · exact h.2.2 r
  · exact h'.2.2 r
theorem Dom.trans {g : List (List Nat)} {a b k : Nat} (h : Dom g a b) (h' : Dom g b k) : Dom g a k := by
  refine ⟨h'.1, h.2.1, fun r => ?_⟩
  have key : ∀ x, RchW g a x → RchW g b x := by
    intro x hx
    induction hx with
    | start h0 =>
      by_cases e : b = 0
      · subst e
        have := Dom.zero h
        subst this
        exact absurd rfl h0
      · exact .start (by omega)
    | @step i j l hi hl hj hne ih =>
      by_cases e : j = b
      · subst e
        exact absurd (RchW.step hi hl hj hne) h.2.2
      · exact .step ih hl hj (by omega)
  exact h'.2.2 (key k r)
theorem backL_dom {g D : List (List Nat)} (hD : IsDoms g D) {u v : Nat} (h : (u, v) ∈ backL g D) : Dom g v u := ((isB_dom hD u v).1 (List.mem_filter.1 h).2).2
/-- the head dominates its loop -/
theorem InB.dom {g D : List (List Nat)} (hD : IsDoms g D) {h x : Nat} (hh : Come g h) (i : InB g D h x) : Dom g h x := by
  induction i with
  | head => exact Dom.self hh
  | start hb => exact backL_dom hD hb
  | back _ hne hl ih => exact ih.up hl (fun e => hne e.symm)
/-- where a loop meets another one whose head its own head dominates, it has that head -/
theorem InB.meets {g D : List (List Nat)} (hD : IsDoms g D) {a b : Nat} (hab : Dom g a b) (hne : a ≠ b) : ∀ {k : Nat}, Come g k → InB g D a k → Dom g b k → InB g D a b := by
  intro k hk
  unfold Come at hk
  induction hk with
  | start _ =>
    intro h1 h2
    rw [Dom.zero h2]
    exact h1
  | @step i j l hi hl hj _ ih =>
    intro h1 h2
    by_cases e : j = b
    · subst e; exact h1
    · have hja : j ≠ a := fun e2 => by subst e2; exact hne (hab.anti h2)
      have hlead : Lead g i j := ⟨hi, l, hl, hj⟩
      exact ih (.back h1 hja hlead) (h2.up hlead (fun e2 => e e2.symm))
theorem InB.within {g D : List (List Nat)} (G : Gr g) (hD : IsDoms g D) {a b : Nat} (hab : Dom g a b) (hne : a ≠ b) (hb : InB g D a b) {z : Nat} (hz : InB g D b z) : InB g D a z := by
  induction hz with
  | head => exact hb
  | start hs => exact .back hb (fun e => hne e.symm) (backL_lead G hs)
  | @back x k hx hxb hl ih =>
    refine .back ih (fun e => ?_) hl
    subst e
    exact hne (hab.anti (hx.dom hD hab.1))
/-- two loops lie one in the other, or apart -/
theorem rings_nest {g D : List (List Nat)} (G : Gr g) (hD : IsDoms g D) {a b k : Nat} (ha : Come g a) (hb : Come g b) (hne : a ≠ b) (h1 : InB g D a k) (h2 : InB g D b k) : (Dom g a b ∧ InB g D a b ∧ ∀ z, InB g D b z → InB g D a z) ∨ (Dom g b a ∧ InB g D b a ∧ ∀ z, InB g D a z → InB g D b z) := by
  have d1 := h1.dom hD ha
  have d2 := h2.dom hD hb
  rcases d1.line d2 with d | d
  · have := h1.meets hD d hne d1.1 d2
    exact .inl ⟨d, InB.meets hD d hne d1.1 h1 d2, fun z hz => InB.within G hD d hne (InB.meets hD d hne d1.1 h1 d2) hz⟩
  · exact .inr ⟨d, InB.meets hD d (fun e => hne e.symm) d2.1 h2 d1, fun z hz => InB.within G hD d (fun e => hne e.symm) (InB.meets hD d (fun e => hne e.symm) d2.1 h2 d1) hz⟩
/-- a loop is entered by its head alone -/
theorem ring_entry {g D : List (List Nat)} {h k n : Nat} (hl : Lead g k n) (hk : ¬ InB g D h k) (hn : InB g D h n) : n = h := Classical.byContradiction fun e => hk (.back hn e hl)
/-- what is told of the least one that fits -/
theorem leastTo_fits {L : List (Nat × List Nat)} {p : Nat × List Nat → Bool} : ∀ {k b : Nat}, leastTo L p k = some b → ∃ x, L[b]? = some x ∧ p x = true
  | 0, b, h => by simp [leastTo] at h
  | k + 1, b, h => by
    unfold leastTo at h
    cases hx : L[k]? with
    | none => rw [hx] at h; exact leastTo_fits h
    | some x =>
      rw [hx] at h
      dsimp only at h
      split at h
      · rename_i hp
        injection h with h
        subst h
        exact ⟨x, hx, (Bool.and_eq_true _ _ ▸ hp).1⟩
      · exact leastTo_fits h
/-- and it is the least -/
theorem leastTo_least {L : List (Nat × List Nat)} {p : Nat × List Nat → Bool} : ∀ {k i : Nat} {x : Nat × List Nat}, i < k → L[i]? = some x → p x = true → ∃ b y, leastTo L p k = some b ∧ L[b]? = some y ∧ y.2.length ≤ x.2.length
  | 0, i, x, h, _, _ => by omega
  | k + 1, i, x, h, hx, hp => by
    unfold leastTo
    cases hk : L[k]? with
    | none =>
      have : i ≠ k := fun e => by subst e; rw [hk] at hx; cases hx
      exact leastTo_least (by omega) hx hp
    | some z =>
      dsimp only
      by_cases hi : i = k
      · subst hi
        rw [hk] at hx
        obtain rfl := Option.some.inj hx
        cases hl : leastTo L p i with
        | none => rw [if_pos (by simp [hp, lessThan])]; exact ⟨i, z, rfl, hk, Nat.le_refl _⟩
        | some b =>
          obtain ⟨y, hy, _⟩ := leastTo_fits hl
          by_cases hlt : z.2.length < y.2.length
          · rw [if_pos (by simp [hp, lessThan, hy, hlt])]; exact ⟨i, z, rfl, hk, Nat.le_refl _⟩
          · rw [if_neg (by simp [hp, lessThan, hy, hlt])]; exact ⟨b, y, rfl, hy, by omega⟩
      · obtain ⟨b, y, h1, h2, h3⟩ := leastTo_least (p := p) (show i < k by omega) hx hp
        rw [h1]
        by_cases hc : (p z && lessThan L z (some b)) = true
        · rw [if_pos hc]
          refine ⟨k, z, rfl, hk, ?_⟩
          have := (Bool.and_eq_true _ _ ▸ hc).2
          simp [lessThan, h2] at this
          omega
        · rw [if_neg hc]
          exact ⟨b, y, rfl, h2, h3⟩
theorem leastTo_none {L : List (Nat × List Nat)} {p : Nat × List Nat → Bool} {k : Nat} (h : leastTo L p k = none) {i : Nat} {x : Nat × List Nat} (hi : i < k) (hx : L[i]? = some x) : p x = false := by
  cases hp : p x with
  | false => rfl
  | true =>
    obtain ⟨b, y, h1, _⟩ := leastTo_least hi hx hp
    rw [h] at h1; cases h1
end

section
set_option linter.unusedVariables false

theorem rising_sub_len : ∀ {L L' : List Nat}, L.Nodup → L'.Nodup → (∀ x ∈ L, x ∈ L') → L.length ≤ L'.length
  | [], L', _, _, _ => by simp
  | x :: r, L', h, h', hs => by
    have hx := hs x (by simp)
    have h1 := List.nodup_cons.1 h
    have := rising_sub_len (L := r) (L' := L'.erase x) h1.2 (h'.erase x) (fun y hy => (h'.mem_erase_iff).2 ⟨fun e => h1.1 (e ▸ hy), hs y (by simp [hy])⟩)
    rw [List.length_erase_of_mem hx] at this
    have := List.length_pos_of_mem hx
    simp
    omega
theorem rising_sub_lt {L L' : List Nat} (h : L.Nodup) (h' : L'.Nodup) (hs : ∀ x ∈ L, x ∈ L') {y : Nat} (hy : y ∈ L') (hn : y ∉ L) : L.length < L'.length := by
  have := rising_sub_len h (h'.erase y) (fun x hx => (h'.mem_erase_iff).2 ⟨fun e => hn (e ▸ hx), hs x hx⟩)
  rw [List.length_erase_of_mem hy] at this
  have := List.length_pos_of_mem hy
  omega
/-- one loop has another one: it is greater -/
theorem ring_greater {g D : List (List Nat)} (G : Gr g) (hD : IsDoms g D) {x y : Nat × List Nat} (hx : isHead g D x.1 = true ∧ IsBody g D x.1 x.2) (hy : isHead g D y.1 = true ∧ IsBody g D y.1 y.2) (hne : y.1 ≠ x.1) (hs : ∀ z ∈ x.2, z ∈ y.2) : x.2.length < y.2.length ∧ x.1 ∈ y.2 := by
  have h1 : x.1 ∈ x.2 := (hx.2.2 _).2 .head
  have h2 : y.1 ∈ y.2 := (hy.2.2 _).2 .head
  have h3 := hs _ h1
  refine ⟨rising_sub_lt (rising_nodup hx.2.1) (rising_nodup hy.2.1) hs h2 (fun h => ?_), h3⟩
  exact hne ((((hy.2.2 _).1 h3).dom hD (isHead.come G hy.1)).anti (((hx.2.2 _).1 h).dom hD (isHead.come G hx.1)))
theorem liesIn_iff {L : List (Nat × List Nat)} {i : Nat} {x y : Nat × List Nat} (hx : L[i]? = some x) : liesIn L i y = true ↔ (y.1 ≠ x.1 ∧ ∀ z ∈ x.2, z ∈ y.2) := by
  unfold liesIn allIn
  rw [hx]
  simp only [Bool.and_eq_true, decide_eq_true_iff, List.all_eq_true]
/-- what is told of where a loop lies -/
theorem up_is {g D : List (List Nat)} (G : Gr g) (hD : IsDoms g D) {L : List (Nat × List Nat)} (hL : Rings g D g.length L) {i b : Nat} {x : Nat × List Nat} (hx : L[i]? = some x) (hb : leastTo L (liesIn L i) L.length = some b) : ∃ y, L[b]? = some y ∧ y.1 ≠ x.1 ∧ (∀ z ∈ x.2, z ∈ y.2) ∧ x.2.length < y.2.length ∧ x.1 ∈ y.2 := by
  obtain ⟨y, hy, hp⟩ := leastTo_fits hb
  obtain ⟨h1, h2⟩ := (liesIn_iff hx).1 hp
  have hmx := hL.mem (List.mem_of_getElem? hx)
  have hmy := hL.mem (List.mem_of_getElem? hy)
  have := ring_greater G hD hmx.2 hmy.2 h1 h2
  exact ⟨y, hy, h1, h2, this.1, this.2⟩
/-- two loops of one node: the one that is no less has the other -/
theorem chain_le {g D : List (List Nat)} (G : Gr g) (hD : IsDoms g D) {x y : Nat × List Nat} {k : Nat} (hx : isHead g D x.1 = true ∧ IsBody g D x.1 x.2) (hy : isHead g D y.1 = true ∧ IsBody g D y.1 y.2) (hkx : k ∈ x.2) (hky : k ∈ y.2) (hne : y.1 ≠ x.1) (hle : x.2.length ≤ y.2.length) : ∀ z ∈ x.2, z ∈ y.2 := by
  rcases rings_nest G hD (isHead.come G hx.1) (isHead.come G hy.1) (fun e => hne e.symm) ((hx.2.2 k).1 hkx) ((hy.2.2 k).1 hky) with ⟨_, _, h⟩ | ⟨_, _, h⟩
  · have := ring_greater G hD hy hx (fun e => hne e.symm) (fun z hz => (hx.2.2 z).2 (h z ((hy.2.2 z).1 hz)))
    omega
  · exact fun z hz => (hy.2.2 z).2 (h z ((hx.2.2 z).1 hz))
/-- how many loops a node is in that are at least so great -/
def cntFrom (L : List (Nat × List Nat)) (k c : Nat) : Nat := L.countP fun l => decide (k ∈ l.2) && decide (c ≤ l.2.length)
theorem Rings.nodup {g D : List (List Nat)} {m : Nat} {L : List (Nat × List Nat)} (h : Rings g D m L) : L.Nodup := by
  have := rising_nodup h.rising
  rw [List.Nodup, List.pairwise_map] at this
  exact this.imp (fun {a b} hab e => hab (by rw [e]))
theorem countP_or {α : Type} [DecidableEq α] (p q : α → Bool) (x : α) : ∀ {L : List α}, L.Nodup → x ∈ L → (∀ l ∈ L, p l = true ↔ (l = x ∨ q l = true)) → q x = false → L.countP p = L.countP q + 1
  | [], _, hx, _, _ => by simp at hx
  | y :: r, hn, hx, hp, hq => by
    have h1 := List.nodup_cons.1 hn
    by_cases e : y = x
    · subst e
      have e1 : p y = true := (hp y (by simp)).2 (.inl rfl)
      have e2 : r.countP p = r.countP q := List.countP_congr fun l hl => by
        rw [hp l (by simp [hl])]
        exact ⟨fun h => h.resolve_left (fun e => h1.1 (e ▸ hl)), .inr⟩
      rw [List.countP_cons_of_pos e1, List.countP_cons_of_neg (by simp [hq]), e2]
    · have hx' : x ∈ r := by
        rcases List.mem_cons.1 hx with e2 | e2
        · exact absurd e2.symm e
        · exact e2
      have ih := countP_or p q x h1.2 hx' (fun l hl => hp l (by simp [hl])) hq
      have e1 : p y = q y := by
        have := hp y (by simp)
        cases h2 : q y
        · cases h3 : p y
          · rfl
          · rcases this.1 h3 with h4 | h4
            · exact absurd h4 e
            · rw [h2] at h4; cases h4
        · exact this.2 (.inr h2)
      rw [List.countP_cons, List.countP_cons, ih, e1]
      omega
/-- along where a loop lies one less is left -/
theorem cnt_up {g D : List (List Nat)} (G : Gr g) (hD : IsDoms g D) {L : List (Nat × List Nat)} (hL : Rings g D g.length L) {i k : Nat} {x : Nat × List Nat} (hx : L[i]? = some x) (hk : k ∈ x.2) :
    (leastTo L (liesIn L i) L.length = none ∧ cntFrom L k x.2.length = 1) ∨ (∃ b y, leastTo L (liesIn L i) L.length = some b ∧ L[b]? = some y ∧ k ∈ y.2 ∧ cntFrom L k x.2.length = cntFrom L k y.2.length + 1) := by
  have hxm := List.mem_of_getElem? hx
  have hmx := hL.mem hxm
  have key : ∀ l ∈ L, (k ∈ l.2 ∧ x.2.length ≤ l.2.length) ↔ (l = x ∨ (l.1 ≠ x.1 ∧ ∀ z ∈ x.2, z ∈ l.2)) := fun l hl => by
    have hml := hL.mem hl
    constructor
    · rintro ⟨h1, h2⟩
      by_cases e : l.1 = x.1
      · left
        have : l.2 = x.2 := by
          have hb := hml.2.2
          rw [e] at hb
          exact hb.unique hmx.2.2
        exact Prod.ext e this
      · exact .inr ⟨e, chain_le G hD hmx.2 hml.2 hk h1 e h2⟩
    · rintro (rfl | ⟨h1, h2⟩)
      · exact ⟨hk, Nat.le_refl _⟩
      · exact ⟨h2 k hk, Nat.le_of_lt (ring_greater G hD hmx.2 hml.2 h1 h2).1⟩
  cases hu : leastTo L (liesIn L i) L.length with
  | none =>
    refine .inl ⟨rfl, ?_⟩
    unfold cntFrom
    rw [countP_or (fun l => decide (k ∈ l.2) && decide (x.2.length ≤ l.2.length)) (fun _ => false) x hL.nodup hxm (fun l hl => ?_) rfl]
    · simp
    · simp only [Bool.and_eq_true, decide_eq_true_iff, Bool.false_eq_true, or_false]
      rw [key l hl]
      refine ⟨fun h => h.resolve_right (fun h => ?_), .inl⟩
      obtain ⟨j, hj⟩ := List.mem_iff_getElem?.1 hl
      have := leastTo_none hu (List.getElem?_eq_some_iff.1 hj).1 hj
      rw [(liesIn_iff hx).2 h] at this
      cases this
  | some b =>
    obtain ⟨y, hy, h1, h2, h3, h4⟩ := up_is G hD hL hx hu
    refine .inr ⟨b, y, rfl, hy, h2 k hk, ?_⟩
    unfold cntFrom
    refine countP_or _ (fun l => decide (k ∈ l.2) && decide (y.2.length ≤ l.2.length)) x hL.nodup hxm (fun l hl => ?_) ?_
    · simp only [Bool.and_eq_true, decide_eq_true_iff]
      rw [key l hl]
      constructor
      · rintro (h | h)
        · exact .inl h
        · refine .inr ⟨h.2 k hk, ?_⟩
          obtain ⟨j, hj⟩ := List.mem_iff_getElem?.1 hl
          obtain ⟨b', y', e1, e2, e3⟩ := leastTo_least (List.getElem?_eq_some_iff.1 hj).1 hj ((liesIn_iff hx).2 h)
          rw [hu] at e1
          obtain rfl := Option.some.inj e1
          rw [hy] at e2
          obtain rfl := Option.some.inj e2
          exact e3
      · rintro (h | h)
        · exact .inl h
        · exact (key l hl).1 ⟨h.1, by omega⟩
    · simp only [Bool.and_eq_false_iff, decide_eq_false_iff_not]
      right
      omega
/-- the least loop of a node: all its loops are no less -/
theorem cnt_all {L : List (Nat × List Nat)} {k b : Nat} {y : Nat × List Nat} (hb : leastTo L (fun l => decide (k ∈ l.2)) L.length = some b) (hy : L[b]? = some y) : cntFrom L k y.2.length = L.countP fun l => decide (k ∈ l.2) := by
  unfold cntFrom
  refine List.countP_congr fun l hl => ?_
  simp only [Bool.and_eq_true, decide_eq_true_iff]
  refine ⟨fun h => h.1, fun h => ⟨h, ?_⟩⟩
  obtain ⟨j, hj⟩ := List.mem_iff_getElem?.1 hl
  obtain ⟨b', y', e1, e2, e3⟩ := leastTo_least (p := fun l : Nat × List Nat => decide (k ∈ l.2)) (List.getElem?_eq_some_iff.1 hj).1 hj (decide_eq_true h)
  rw [hb] at e1
  obtain rfl := Option.some.inj e1
  rw [hy] at e2
  obtain rfl := Option.some.inj e2
  exact e3
end
end Go.Proofs.YtiadmmnnbnamjaaGreat
