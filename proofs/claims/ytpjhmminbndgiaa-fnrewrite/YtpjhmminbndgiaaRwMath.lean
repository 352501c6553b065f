/- Plain facts of rewriting: texts as lists of bytes, what comes of one by a rule at a place, that it is less, and that where all critical pairs join all ends are alike. -/
import Derived.WalkKit
namespace Go.Proofs.Ytpjhmminbndgiaa
set_option linter.unusedVariables false
set_option linter.unusedSimpArgs false

abbrev Tx := List UInt8
abbrev Rl := Tx × Tx

def slB (a b : Tx) : Bool := decide (a.length < b.length) || (decide (a.length = b.length) && Op.bytesLess a b)
def okB (n : Nat) (s : Tx) : Bool := decide (s.length ≤ n) && s.all fun b => decide (97 ≤ b.toNat ∧ b.toNat ≤ 100)
def ruleB (r : Rl) : Bool := okB 6 r.1 && okB 6 r.2 && slB r.2 r.1
def rulesB (l : List Rl) : Bool := decide (l.length ≤ 8) && l.all ruleB
/-- what a text becomes by a rule at a place -/
def useAt (r : Rl) (s : Tx) (at_ : Nat) : Option Tx := if r.1.isPrefixOf (s.drop at_) then some (s.take at_ ++ r.2 ++ s.drop (at_ + r.1.length)) else none
def onceR (r : Rl) (s : Tx) : List Tx := (List.range s.length).filterMap (useAt r s)
def once (l : List Rl) (s : Tx) : List Tx := l.flatMap fun r => onceR r s
def pickB (last : Bool) (xs : List Tx) : Option Tx := if last then xs.getLast? else xs.head?
/-- what it comes to in at most so many times, and how often -/
def normB (last : Bool) (l : List Rl) : Nat → Tx → Option (Tx × Nat)
  | k, s => match pickB last (once l s) with
    | none => some (s, 0)
    | some u => match k with
      | 0 => none
      | k + 1 => (normB last l k u).map fun x => (x.1, x.2 + 1)
/-- the texts of the pairs of two rules, put together -/
def across (a b : Rl) : List (Tx × Tx) := (List.range (min a.1.length b.1.length - 1)).filterMap fun k =>
  if b.1.take (k + 1) = a.1.drop (a.1.length - (k + 1)) then some (a.2 ++ b.1.drop (k + 1), a.1.take (a.1.length - (k + 1)) ++ b.2) else none
def within (a b : Rl) : List (Tx × Tx) := (List.range a.1.length).filterMap fun k => (useAt b a.1 k).map fun v => (a.2, v)
def pairs2 (a b : Rl) (same : Bool) : List (Tx × Tx) := across a b ++ if same then [] else within a b
def pairsB (l : List Rl) : List (Tx × Tx) := (List.range l.length).flatMap fun i => (List.range l.length).flatMap fun j => pairs2 (l.getD i ([], [])) (l.getD j ([], [])) (decide (i = j))

/-! a number that grows with a text -/
def enc : Nat → Tx → Nat
  | n, [] => n
  | n, b :: s => enc (n * 257 + b.toNat + 1) s
theorem enc_eq (s : Tx) : ∀ n, enc n s = n * 257 ^ s.length + enc 0 s := by
  induction s with
  | nil => intro n; simp [enc]
  | cons b s ih =>
    intro n
    simp only [enc, List.length_cons]
    rw [ih, ih (0 * 257 + b.toNat + 1)]
    have : 257 ^ (s.length + 1) = 257 ^ s.length * 257 := Nat.pow_succ ..
    rw [this]
    simp only [Nat.add_mul, Nat.zero_mul, Nat.zero_add, Nat.one_mul]
    rw [Nat.mul_assoc, Nat.mul_comm 257 (257 ^ s.length)]
    omega
theorem enc_lt (s : Tx) : enc 0 s < 257 ^ s.length := by
  induction s with
  | nil => simp [enc]
  | cons b s ih =>
    simp only [enc, List.length_cons]
    rw [enc_eq]
    have hb : b.toNat + 1 ≤ 256 := by have := b.toNat_lt; omega
    have h2 : (b.toNat + 1) * 257 ^ s.length ≤ 256 * 257 ^ s.length := Nat.mul_le_mul_right _ hb
    have : 257 ^ (s.length + 1) = 257 ^ s.length * 257 := Nat.pow_succ ..
    simp only [Nat.zero_mul, Nat.zero_add]
    omega
theorem enc_ge (s : Tx) (h : s ≠ []) : 257 ^ (s.length - 1) ≤ enc 0 s := by
  cases s with
  | nil => exact absurd rfl h
  | cons b s =>
    simp only [enc, List.length_cons, Nat.add_sub_cancel]
    rw [enc_eq]
    have h2 : 1 * 257 ^ s.length ≤ (0 * 257 + b.toNat + 1) * 257 ^ s.length := Nat.mul_le_mul_right _ (by omega)
    omega
theorem less_enc : ∀ (a b : Tx), a.length = b.length → Op.bytesLess a b = true → enc 0 a < enc 0 b
  | [], [], _, h => by simp [Op.bytesLess] at h
  | x :: a, y :: b, hl, h => by
    simp only [List.length_cons, Nat.add_right_cancel_iff] at hl
    simp only [Op.bytesLess, Bool.or_eq_true, Bool.and_eq_true, beq_iff_eq, decide_eq_true_eq] at h
    simp only [enc]
    rw [enc_eq a, enc_eq b, hl]
    have h1 := enc_lt a
    rw [hl] at h1
    rcases h with h | ⟨rfl, h⟩
    · have hlt : x.toNat < y.toNat := h
      have h2 : (0 * 257 + x.toNat + 1 + 1) * 257 ^ b.length ≤ (0 * 257 + y.toNat + 1) * 257 ^ b.length := Nat.mul_le_mul_right _ (by omega)
      rw [Nat.add_mul (0 * 257 + x.toNat + 1) 1] at h2
      omega
    · have := less_enc a b hl h
      omega
theorem sl_enc {a b : Tx} (h : slB a b = true) : enc 0 a < enc 0 b := by
  simp only [slB, Bool.or_eq_true, Bool.and_eq_true, decide_eq_true_eq] at h
  rcases h with h | ⟨hl, h⟩
  · have h1 := enc_lt a
    have h2 := enc_ge b (by intro h0; simp [h0] at h)
    have h3 : 257 ^ a.length ≤ 257 ^ (b.length - 1) := Nat.pow_le_pow_right (by omega) (by omega)
    omega
  · exact less_enc a b hl h
theorem sl_irrefl (a : Tx) : slB a a = false := by
  cases h : slB a a
  · rfl
  · exact absurd (sl_enc h) (Nat.lt_irrefl _)
theorem sl_asymm {a b : Tx} (h : slB a b = true) : slB b a = false := by
  cases h2 : slB b a
  · rfl
  · exact absurd (sl_enc h) (by have := sl_enc h2; omega)
theorem less_total : ∀ (a b : Tx), a.length = b.length → a ≠ b → Op.bytesLess a b = true ∨ Op.bytesLess b a = true
  | [], [], _, h => absurd rfl h
  | x :: a, y :: b, hl, h => by
    simp only [List.length_cons, Nat.add_right_cancel_iff] at hl
    simp only [Op.bytesLess, Bool.or_eq_true, Bool.and_eq_true, beq_iff_eq, decide_eq_true_eq]
    by_cases hxy : x = y
    · subst hxy
      rcases less_total a b hl (fun hh => h (by rw [hh])) with h2 | h2
      · exact .inl (.inr ⟨rfl, h2⟩)
      · exact .inr (.inr ⟨rfl, h2⟩)
    · have : x.toNat ≠ y.toNat := fun hh => hxy (UInt8.toNat_inj.1 hh)
      rcases Nat.lt_or_gt_of_ne this with h2 | h2
      · exact .inl (.inl h2)
      · exact .inr (.inl h2)
theorem sl_total {a b : Tx} (h : a ≠ b) : slB a b = true ∨ slB b a = true := by
  simp only [slB, Bool.or_eq_true, Bool.and_eq_true, decide_eq_true_eq]
  rcases Nat.lt_trichotomy a.length b.length with h1 | h1 | h1
  · exact .inl (.inl h1)
  · rcases less_total a b h1 h with h2 | h2
    · exact .inl (.inr ⟨h1, h2⟩)
    · exact .inr (.inr ⟨h1.symm, h2⟩)
  · exact .inr (.inl h1)
theorem less_append (p : Tx) (a b : Tx) : Op.bytesLess (p ++ a) (p ++ b) = Op.bytesLess a b := by
  induction p with
  | nil => rfl
  | cons x p ih => simp [Op.bytesLess, ih]
theorem less_behind : ∀ (a b q : Tx), a.length = b.length → Op.bytesLess a b = true → Op.bytesLess (a ++ q) (b ++ q) = true
  | [], [], q, _, h => by simp [Op.bytesLess] at h
  | x :: a, y :: b, q, hl, h => by
    simp only [List.length_cons, Nat.add_right_cancel_iff] at hl
    simp only [List.cons_append, Op.bytesLess, Bool.or_eq_true, Bool.and_eq_true, beq_iff_eq, decide_eq_true_eq] at h ⊢
    rcases h with h | ⟨h1, h⟩
    · exact .inl h
    · exact .inr ⟨h1, less_behind a b q hl h⟩
theorem sl_ctx {a b : Tx} (h : slB a b = true) (p q : Tx) : slB (p ++ a ++ q) (p ++ b ++ q) = true := by
  simp only [slB, Bool.or_eq_true, Bool.and_eq_true, decide_eq_true_eq] at h ⊢
  rcases h with h | ⟨hl, h⟩
  · left; simp only [List.length_append]; omega
  · right
    refine ⟨by simp only [List.length_append]; omega, ?_⟩
    rw [List.append_assoc, List.append_assoc, less_append]
    exact less_behind a b q hl h
theorem sl_trans {a b c : Tx} (h : slB a b = true) (h2 : slB b c = true) : slB a c = true := by
  by_cases hac : a = c
  · subst hac; rw [sl_asymm h] at h2; exact absurd h2 (by simp)
  rcases sl_total hac with h3 | h3
  · exact h3
  · have e1 := sl_enc h; have e2 := sl_enc h2; have e3 := sl_enc h3; omega

/-! one step -/
theorem use_is {r : Rl} {s u : Tx} {k : Nat} (hk : k ≤ s.length) : useAt r s k = some u ↔ ∃ p q, p.length = k ∧ s = p ++ r.1 ++ q ∧ u = p ++ r.2 ++ q := by
  unfold useAt
  constructor
  · intro h
    split at h
    · rename_i hp
      obtain ⟨q, hq⟩ := List.isPrefixOf_iff_prefix.1 hp
      refine ⟨s.take k, q, by simp [hk], ?_, ?_⟩
      · rw [List.append_assoc, hq, List.take_append_drop]
      · have : s.drop (k + r.1.length) = q := by rw [← List.drop_drop, ← hq, List.drop_left]
        rw [this] at h
        exact (Option.some.inj h).symm
    · exact absurd h (by simp)
  · rintro ⟨p, q, rfl, rfl, rfl⟩
    have h1 : (p ++ r.1 ++ q).drop p.length = r.1 ++ q := by rw [List.append_assoc, List.drop_left]
    have h2 : (p ++ r.1 ++ q).drop (p.length + r.1.length) = q := by rw [← List.drop_drop, h1, List.drop_left]
    have h3 : (p ++ r.1 ++ q).take p.length = p := by rw [List.append_assoc, List.take_left]
    rw [h1, h2, h3, if_pos (List.isPrefixOf_iff_prefix.2 ⟨q, rfl⟩)]
theorem once_is {l : List Rl} {s u : Tx} (hl : ∀ r ∈ l, r.1 ≠ []) : u ∈ once l s ↔ ∃ r ∈ l, ∃ p q, s = p ++ r.1 ++ q ∧ u = p ++ r.2 ++ q := by
  unfold once onceR
  simp only [List.mem_flatMap, List.mem_filterMap, List.mem_range]
  constructor
  · rintro ⟨r, hr, k, hk, h⟩
    obtain ⟨p, q, _, h1, h2⟩ := (use_is (by omega)).1 h
    exact ⟨r, hr, p, q, h1, h2⟩
  · rintro ⟨r, hr, p, q, rfl, rfl⟩
    have : 0 < r.1.length := List.length_pos_iff.2 (hl r hr)
    refine ⟨r, hr, p.length, by simp only [List.length_append]; omega, ?_⟩
    exact (use_is (by simp only [List.length_append]; omega)).2 ⟨p, q, rfl, rfl, rfl⟩
theorem rule_sl {l : List Rl} (hl : rulesB l = true) {r : Rl} (hr : r ∈ l) : slB r.2 r.1 = true := by
  simp only [rulesB, Bool.and_eq_true, List.all_eq_true, ruleB] at hl
  exact (hl.2 r hr).2
theorem rule_ne {l : List Rl} (hl : rulesB l = true) : ∀ r ∈ l, r.1 ≠ [] := by
  intro r hr h0
  have := rule_sl hl hr
  rw [h0] at this
  cases h2 : r.2 <;> simp [slB, h2, Op.bytesLess] at this
theorem once_sl {l : List Rl} {s u : Tx} (hl : rulesB l = true) (h : u ∈ once l s) : slB u s = true := by
  obtain ⟨r, hr, p, q, rfl, rfl⟩ := (once_is (rule_ne hl)).1 h
  exact sl_ctx (rule_sl hl hr) p q
theorem okB_append {n : Nat} {a b : Tx} : okB n (a ++ b) = (decide (a.length + b.length ≤ n) && (a.all (fun b => decide (97 ≤ b.toNat ∧ b.toNat ≤ 100)) && b.all fun b => decide (97 ≤ b.toNat ∧ b.toNat ≤ 100))) := by
  simp [okB]
theorem once_ok {l : List Rl} {s u : Tx} {n : Nat} (hl : rulesB l = true) (h : u ∈ once l s) (hs : okB n s = true) : okB n u = true := by
  obtain ⟨r, hr, p, q, rfl, rfl⟩ := (once_is (rule_ne hl)).1 h
  have h1 := rule_sl hl hr
  have h2 : ruleB r = true := by simp only [rulesB, Bool.and_eq_true, List.all_eq_true] at hl; exact hl.2 r hr
  have hlen : r.2.length ≤ r.1.length := by
    simp only [slB, Bool.or_eq_true, Bool.and_eq_true, decide_eq_true_eq] at h1; omega
  simp only [ruleB, Bool.and_eq_true] at h2
  have h3 := h2.1.2
  simp only [okB, Bool.and_eq_true, decide_eq_true_eq, List.all_append] at h3 hs ⊢
  refine ⟨?_, ⟨hs.2.1.1, h3.2⟩, hs.2.2⟩
  have := hs.1
  simp only [List.length_append] at this ⊢
  omega

/-! many steps -/
inductive Star (l : List Rl) : Tx → Tx → Prop
  | refl (s) : Star l s s
  | head {s u t} : u ∈ once l s → Star l u t → Star l s t
theorem Star.trans {l : List Rl} {a b c : Tx} (h : Star l a b) (h2 : Star l b c) : Star l a c := by
  induction h with
  | refl => exact h2
  | head h _ ih => exact .head h (ih h2)
theorem Star.ctx {l : List Rl} (hl : rulesB l = true) {a b : Tx} (h : Star l a b) (p q : Tx) : Star l (p ++ a ++ q) (p ++ b ++ q) := by
  induction h with
  | refl => exact .refl _
  | head h _ ih =>
    refine .head ?_ ih
    obtain ⟨r, hr, p', q', rfl, rfl⟩ := (once_is (rule_ne hl)).1 h
    exact (once_is (rule_ne hl)).2 ⟨r, hr, p ++ p', q' ++ q, by simp, by simp⟩
def Join (l : List Rl) (a b : Tx) : Prop := ∃ t, Star l a t ∧ Star l b t
theorem Join.symm {l : List Rl} {a b : Tx} (h : Join l a b) : Join l b a := ⟨h.choose, h.choose_spec.2, h.choose_spec.1⟩
theorem Join.refl {l : List Rl} (a : Tx) : Join l a a := ⟨a, .refl _, .refl _⟩
theorem Join.ctx {l : List Rl} (hl : rulesB l = true) {a b : Tx} (h : Join l a b) (p q : Tx) : Join l (p ++ a ++ q) (p ++ b ++ q) := by
  obtain ⟨t, h1, h2⟩ := h
  exact ⟨_, h1.ctx hl p q, h2.ctx hl p q⟩
theorem step_star {l : List Rl} {a b : Tx} (h : b ∈ once l a) : Star l a b := .head h (.refl _)

theorem pick_mem {last : Bool} {xs : List Tx} {u : Tx} (h : pickB last xs = some u) : u ∈ xs := by
  unfold pickB at h
  split at h
  · exact List.mem_of_getLast? h
  · exact List.mem_of_head? h
theorem pick_none {last : Bool} {xs : List Tx} (h : pickB last xs = none) : xs = [] := by
  unfold pickB at h
  split at h
  · exact List.getLast?_eq_none_iff.1 h
  · exact List.head?_eq_none_iff.1 h
theorem norm_step (last : Bool) (l : List Rl) (k : Nat) (s : Tx) : normB last l k s = match pickB last (once l s) with
    | none => some (s, 0)
    | some u => match k with
      | 0 => none
      | k + 1 => (normB last l k u).map fun x => (x.1, x.2 + 1) := by
  cases k <;> (conv => lhs; unfold normB)
theorem norm_is {last : Bool} {l : List Rl} : ∀ {k : Nat} {s t : Tx} {n : Nat}, normB last l k s = some (t, n) → Star l s t ∧ once l t = [] ∧ n ≤ k
  | k, s, t, n, h => by
    rw [norm_step] at h
    cases hp : pickB last (once l s) with
    | none => rw [hp] at h; simp only [Option.some.injEq, Prod.mk.injEq] at h; obtain ⟨rfl, rfl⟩ := h; exact ⟨.refl _, pick_none hp, Nat.zero_le _⟩
    | some u =>
      rw [hp] at h
      cases k with
      | zero => simp at h
      | succ k =>
        simp only [Option.map_eq_some_iff] at h
        obtain ⟨⟨t', n'⟩, h1, h2⟩ := h
        simp only [Prod.mk.injEq] at h2
        obtain ⟨rfl, rfl⟩ := h2
        obtain ⟨h3, h4, h5⟩ := norm_is h1
        exact ⟨.head (pick_mem hp) h3, h4, by omega⟩
theorem star_ok {l : List Rl} {s t : Tx} {n : Nat} (hl : rulesB l = true) (h : Star l s t) : okB n s = true → okB n t = true := by
  induction h with
  | refl => exact id
  | head h _ ih => exact fun hs => ih (once_ok hl h hs)
theorem star_sl {l : List Rl} {s t : Tx} (hl : rulesB l = true) (h : Star l s t) : s = t ∨ slB t s = true := by
  induction h with
  | refl => exact .inl rfl
  | head h _ ih =>
    rcases ih with rfl | ih
    · exact .inr (once_sl hl h)
    · exact .inr (sl_trans ih (once_sl hl h))
/-- the text that comes first is none that was there, if some step was made -/
theorem norm_sl {last : Bool} {l : List Rl} {k : Nat} {s t : Tx} {n : Nat} (hl : rulesB l = true) (h : normB last l k s = some (t, n)) : (n = 0 ↔ t = s) ∧ (0 < n → slB t s = true) := by
  rw [norm_step] at h
  cases hp : pickB last (once l s) with
  | none => rw [hp] at h; simp only [Option.some.injEq, Prod.mk.injEq] at h; obtain ⟨rfl, rfl⟩ := h; simp
  | some u =>
    rw [hp] at h
    cases k with
    | zero => simp at h
    | succ k =>
      simp only [Option.map_eq_some_iff] at h
      obtain ⟨⟨t', n'⟩, h1, h2⟩ := h
      simp only [Prod.mk.injEq] at h2
      obtain ⟨rfl, rfl⟩ := h2
      have h3 := once_sl hl (pick_mem hp)
      have h4 : slB t' s = true := by
        rcases star_sl hl (norm_is h1).1 with rfl | h4
        · exact h3
        · exact sl_trans h4 h3
      refine ⟨⟨fun h => by omega, fun h => ?_⟩, fun _ => h4⟩
      rw [h, sl_irrefl] at h4
      exact absurd h4 (by simp)

/-! all ends alike -/
theorem has_end {l : List Rl} (hl : rulesB l = true) : ∀ (n : Nat) (s : Tx), enc 0 s ≤ n → ∃ t, Star l s t ∧ once l t = []
  | n, s, hn => by
    cases h : once l s with
    | nil => exact ⟨s, .refl _, h⟩
    | cons u r =>
      have hu : u ∈ once l s := by rw [h]; simp
      have := sl_enc (once_sl hl hu)
      cases n with
      | zero => omega
      | succ n =>
        obtain ⟨t, h1, h2⟩ := has_end hl n u (by omega)
        exact ⟨t, .head hu h1, h2⟩
theorem ends_alike {l : List Rl} (hl : rulesB l = true) (hj : ∀ s u v, u ∈ once l s → v ∈ once l s → Join l u v) :
    ∀ (n : Nat) (s t1 t2 : Tx), enc 0 s ≤ n → Star l s t1 → once l t1 = [] → Star l s t2 → once l t2 = [] → t1 = t2
  | n, s, t1, t2, hn, h1, e1, h2, e2 => by
    cases h1 with
    | refl =>
      cases h2 with
      | refl => rfl
      | head hv h2 => rw [e1] at hv; simp at hv
    | @head _ u _ hu h1 =>
      cases h2 with
      | refl => rw [e2] at hu; simp at hu
      | @head _ v _ hv h2 =>
        have hu' := sl_enc (once_sl hl hu)
        have hv' := sl_enc (once_sl hl hv)
        cases n with
        | zero => omega
        | succ n =>
          obtain ⟨w, hw1, hw2⟩ := hj s u v hu hv
          obtain ⟨e, he1, he2⟩ := has_end hl _ w (Nat.le_refl _)
          have a1 := ends_alike hl hj n u t1 e (by omega) h1 e1 (hw1.trans he1) he2
          have a2 := ends_alike hl hj n v t2 e (by omega) h2 e2 (hw2.trans he1) he2
          rw [a1, a2]

/-! two steps of one text -/
theorem mem_pairs {l : List Rl} {a b : Rl} (ha : a ∈ l) (hb : b ∈ l) : ∃ i j, i < l.length ∧ j < l.length ∧ l.getD i ([], []) = a ∧ l.getD j ([], []) = b ∧ ∀ x ∈ pairs2 a b (decide (i = j)), x ∈ pairsB l := by
  obtain ⟨i, hi, rfl⟩ := List.getElem_of_mem ha
  obtain ⟨j, hj, rfl⟩ := List.getElem_of_mem hb
  refine ⟨i, j, hi, hj, by simp [List.getD, hi], by simp [List.getD, hj], fun x hx => ?_⟩
  unfold pairsB
  simp only [List.mem_flatMap, List.mem_range]
  refine ⟨i, hi, j, hj, ?_⟩
  simpa [List.getD, hi, hj] using hx
theorem across_mem {a b : Rl} {x o c : Tx} (h1 : a.1 = x ++ o) (h2 : b.1 = o ++ c) (hx : x ≠ []) (ho : o ≠ []) (hc : c ≠ []) : (a.2 ++ c, x ++ b.2) ∈ across a b := by
  have l1 : 0 < x.length := List.length_pos_iff.2 hx
  have l2 : 0 < o.length := List.length_pos_iff.2 ho
  have l3 : 0 < c.length := List.length_pos_iff.2 hc
  unfold across
  simp only [List.mem_filterMap, List.mem_range]
  refine ⟨o.length - 1, ?_, ?_⟩
  · rw [h1, h2]; simp only [List.length_append]; omega
  · have e : o.length - 1 + 1 = o.length := by omega
    have e2 : a.1.length - o.length = x.length := by rw [h1]; simp
    rw [e, e2, h1, h2]
    simp
theorem within_mem {a b : Rl} {p q : Tx} (h : a.1 = p ++ b.1 ++ q) (hb : b.1 ≠ []) : (a.2, p ++ b.2 ++ q) ∈ within a b := by
  have l1 : 0 < b.1.length := List.length_pos_iff.2 hb
  unfold within
  simp only [List.mem_filterMap, List.mem_range]
  refine ⟨p.length, by rw [h]; simp only [List.length_append]; omega, ?_⟩
  rw [(use_is (by rw [h]; simp only [List.length_append]; omega)).2 ⟨p, q, rfl, h, rfl⟩]
  rfl
/-- one lies within the other -/
theorem join_within {l : List Rl} (hl : rulesB l = true) (hp : ∀ x ∈ pairsB l, Join l x.1 x.2) {a b : Rl} (ha : a ∈ l) (hb : b ∈ l) {p q : Tx} (h : a.1 = p ++ b.1 ++ q) : Join l a.2 (p ++ b.2 ++ q) := by
  obtain ⟨i, j, hi, hj, h1, h2, h3⟩ := mem_pairs ha hb
  by_cases hij : i = j
  · subst hij
    have e : a = b := h1.symm.trans h2
    subst e
    have : (p ++ a.1 ++ q).length = a.1.length := by rw [← h]
    simp only [List.length_append] at this
    have hp0 : p = [] := List.length_eq_zero_iff.1 (by omega)
    have hq0 : q = [] := List.length_eq_zero_iff.1 (by omega)
    rw [hp0, hq0]
    simpa using Join.refl a.2
  · refine hp (a.2, p ++ b.2 ++ q) (h3 _ ?_)
    simp only [pairs2, hij, decide_false, Bool.false_eq_true, if_false, List.mem_append]
    exact .inr (within_mem h (rule_ne hl b hb))
theorem join_across {l : List Rl} (hp : ∀ x ∈ pairsB l, Join l x.1 x.2) {a b : Rl} (ha : a ∈ l) (hb : b ∈ l) {x o c : Tx} (h1 : a.1 = x ++ o) (h2 : b.1 = o ++ c) (hx : x ≠ []) (ho : o ≠ []) (hc : c ≠ []) : Join l (a.2 ++ c) (x ++ b.2) := by
  obtain ⟨i, j, hi, hj, e1, e2, h3⟩ := mem_pairs ha hb
  exact hp (a.2 ++ c, x ++ b.2) (h3 _ (by simp only [pairs2, List.mem_append]; exact .inl (across_mem h1 h2 hx ho hc)))
/-- the first one begins no later -/
theorem join_le {l : List Rl} (hl : rulesB l = true) (hp : ∀ x ∈ pairsB l, Join l x.1 x.2) {a b : Rl} (ha : a ∈ l) (hb : b ∈ l) {p q p' q' : Tx} (h : p ++ a.1 ++ q = p' ++ b.1 ++ q') (hle : p.length ≤ p'.length) : Join l (p ++ a.2 ++ q) (p' ++ b.2 ++ q') := by
  obtain ⟨m, rfl⟩ : ∃ m, p' = p ++ m := by
    have : p <+: p' ++ b.1 ++ q' := ⟨a.1 ++ q, by rw [← h]; simp⟩
    rw [List.append_assoc] at this
    have h2 := List.prefix_of_prefix_length_le this (List.prefix_append p' (b.1 ++ q')) hle
    exact ⟨_, h2.choose_spec.symm⟩
  have h' : a.1 ++ q = m ++ (b.1 ++ q') := by
    have : p ++ (a.1 ++ q) = p ++ (m ++ (b.1 ++ q')) := by simpa using h
    exact List.append_cancel_left this
  rcases Nat.le_total a.1.length m.length with hm | hm
  · -- apart
    obtain ⟨n, rfl⟩ : ∃ n, m = a.1 ++ n := by
      have : a.1 <+: m ++ (b.1 ++ q') := ⟨q, h'⟩
      have h2 := List.prefix_of_prefix_length_le this (List.prefix_append m (b.1 ++ q')) hm
      exact ⟨_, h2.choose_spec.symm⟩
    have hq : q = n ++ (b.1 ++ q') := by
      rw [List.append_assoc] at h'
      exact List.append_cancel_left h'
    subst hq
    refine ⟨p ++ a.2 ++ n ++ b.2 ++ q', step_star ?_, step_star ?_⟩
    · exact (once_is (rule_ne hl)).2 ⟨b, hb, p ++ a.2 ++ n, q', by simp, by simp⟩
    · exact (once_is (rule_ne hl)).2 ⟨a, ha, p, n ++ b.2 ++ q', by simp, by simp⟩
  · obtain ⟨o, ho⟩ : ∃ o, a.1 = m ++ o := by
      have : m <+: a.1 ++ q := ⟨b.1 ++ q', h'.symm⟩
      have h2 := List.prefix_of_prefix_length_le this (List.prefix_append a.1 q) hm
      exact ⟨_, h2.choose_spec.symm⟩
    have h2 : o ++ q = b.1 ++ q' := by
      rw [ho, List.append_assoc] at h'
      exact List.append_cancel_left h'
    rcases Nat.le_total b.1.length o.length with hb2 | hb2
    · -- within
      obtain ⟨c, hc⟩ : ∃ c, o = b.1 ++ c := by
        have : b.1 <+: o ++ q := ⟨q', h2.symm⟩
        have h3 := List.prefix_of_prefix_length_le this (List.prefix_append o q) hb2
        exact ⟨_, h3.choose_spec.symm⟩
      have hq' : q' = c ++ q := by
        rw [hc, List.append_assoc] at h2
        exact (List.append_cancel_left h2).symm
      subst hq'
      have := (join_within hl hp ha hb (p := m) (q := c) (by rw [ho, hc]; simp)).ctx hl p q
      simpa using this
    · obtain ⟨c, hc⟩ : ∃ c, b.1 = o ++ c := by
        have : o <+: b.1 ++ q' := ⟨q, h2⟩
        have h3 := List.prefix_of_prefix_length_le this (List.prefix_append b.1 q') hb2
        exact ⟨_, h3.choose_spec.symm⟩
      have hq : q = c ++ q' := by
        rw [hc, List.append_assoc] at h2
        exact List.append_cancel_left h2
      subst hq
      by_cases hm0 : m = []
      · subst hm0
        have hoa : a.1 = o := by simpa using ho
        have := (join_within hl hp hb ha (p := []) (q := c) (by rw [hc, hoa]; simp)).symm.ctx hl p q'
        simpa using this
      by_cases hc0 : c = []
      · subst hc0
        have := (join_within hl hp ha hb (p := m) (q := []) (by rw [ho, hc]; simp)).ctx hl p q'
        simpa using this
      by_cases ho0 : o = []
      · -- apart, side by side
        subst ho0
        refine ⟨p ++ a.2 ++ b.2 ++ q', step_star ?_, step_star ?_⟩
        · exact (once_is (rule_ne hl)).2 ⟨b, hb, p ++ a.2, q', by rw [hc]; simp, by simp⟩
        · exact (once_is (rule_ne hl)).2 ⟨a, ha, p, b.2 ++ q', by rw [ho]; simp, by simp⟩
      · have := (join_across hp ha hb ho hc hm0 ho0 hc0).ctx hl p q'
        simpa using this
theorem join_local {l : List Rl} (hl : rulesB l = true) (hp : ∀ x ∈ pairsB l, Join l x.1 x.2) (s u v : Tx) (hu : u ∈ once l s) (hv : v ∈ once l s) : Join l u v := by
  obtain ⟨a, ha, p, q, rfl, rfl⟩ := (once_is (rule_ne hl)).1 hu
  obtain ⟨b, hb, p', q', h, rfl⟩ := (once_is (rule_ne hl)).1 hv
  rcases Nat.le_total p.length p'.length with hle | hle
  · exact join_le hl hp ha hb h hle
  · exact (join_le hl hp hb ha h.symm hle).symm
/-- where both texts of each critical pair come to one end, all ends of one text are alike -/
theorem all_alike {l : List Rl} (hl : rulesB l = true) (hp : ∀ x ∈ pairsB l, ∃ t n n', normB false l 400 x.1 = some (t, n) ∧ normB false l 400 x.2 = some (t, n')) {s t1 t2 : Tx} (h1 : Star l s t1) (e1 : once l t1 = []) (h2 : Star l s t2) (e2 : once l t2 = []) : t1 = t2 := by
  refine ends_alike hl (join_local hl fun x hx => ?_) _ s t1 t2 (Nat.le_refl _) h1 e1 h2 e2
  obtain ⟨t, n, n', a1, a2⟩ := hp x hx
  exact ⟨t, (norm_is a1).1, (norm_is a2).1⟩
end Go.Proofs.Ytpjhmminbndgiaa
