/- Plain facts on code of steps: which step may stand, what is open ahead of each, and where each part ends. -/
import Derived.Laws.BitsAllLaws
namespace Go.Proofs.YthkkhinmdlmhkaaDoor
set_option linter.unusedVariables false

/-- a step: its Op, its N, its Table -/
abbrev Stp := Int × Int × List Int
/-- a part that is open: its Op, its place, the place of its other half or -1 -/
abbrev Spn := Int × Nat × Int

def mostN (op : Int) : Int := if op = 1 then 65535 else if op = 2 ∨ op = 3 then 7 else if 20 ≤ op ∧ op ≤ 22 then 8 else 0
def isOpB (op : Int) : Bool := decide (1 ≤ op) && decide (op ≤ 22)
def fitsB (op n : Int) : Bool := decide (0 ≤ n) && decide (n ≤ mostN op)
def allFit (l : List Int) : Bool := l.all (fitsB 22)
def oneS (x : Stp) : Bool := isOpB x.1 && fitsB x.1 x.2.1 && (if x.1 = 22 then decide (1 ≤ x.2.2.length) && decide (x.2.2.length ≤ 4) && allFit x.2.2 else decide (x.2.2.length = 0))
def leB (n : Nat) (k : Int) : Bool := decide (k ≤ n)
def withinB (x : Stp) (n : Nat) : Bool := x.2.2.all (leB n) && (decide (x.1 < 20) || leB n x.2.1)
def opensB (op : Int) : Bool := decide (15 ≤ op) && decide (op ≤ 17)

def putE (e : List Int) (s : Nat) (t : Int) (at' : Nat) : List Int := if t = -1 then e.set s at' else (e.set s at').set t.toNat at'

/-- one step: what is open behind it, and the ends that are known -/
def stp (x : Stp) (o : List Spn) (e : List Int) : Option (List Spn × List Int) :=
  if (oneS x && withinB x o.length) = true then
    if opensB x.1 = true then (if o.length < 8 then some (o ++ [(x.1, e.length, -1)], e ++ [-1]) else none)
    else if x.1 = 18 then
      match o.getLast? with
      | none => none
      | some (p, s, t) => if p = 17 ∧ t = -1 then some (o.dropLast ++ [(p, s, (e.length : Int))], e ++ [-1]) else none
    else if x.1 = 19 then
      match o.getLast? with
      | none => none
      | some (p, s, t) => some (o.dropLast, putE (e ++ [(s : Int)]) s t e.length)
    else some (o, e ++ [-1])
  else none
/-- all steps from a state on: what is open, the ends, the depths -/
def runN : List Stp → List Spn → List Int → List Int → Option (List Spn × List Int × List Int)
  | [], o, e, d => some (o, e, d)
  | x :: r, o, e, d => match stp x o e with
    | none => none
    | some (o', e') => runN r o' e' (d ++ [(o.length : Int)])
/-- the ends and the depths of good code -/
def nestO (xs : List Stp) : Option (List Int × List Int) :=
  if xs.length ≤ 60 then
    match runN xs [] [] [] with
    | some ([], e, d) => some (e, d)
    | _ => none
  else none

theorem putE_length (e : List Int) (s : Nat) (t : Int) (k : Nat) : (putE e s t k).length = e.length := by unfold putE; split <;> simp
theorem stp_length {x : Stp} {o o' : List Spn} {e e' : List Int} (h : stp x o e = some (o', e')) : e'.length = e.length + 1 := by
  unfold stp at h
  split at h
  · split at h
    · split at h
      · simp at h; rw [← h.2]; simp
      · cases h
    · split at h
      · split at h
        · cases h
        · split at h
          · simp at h; rw [← h.2]; simp
          · cases h
      · split at h
        · split at h
          · cases h
          · simp at h; rw [← h.2, putE_length]; simp
        · simp at h; rw [← h.2]; simp
  · cases h

/-- what is open is in order: places rise, other halves lie behind -/
def okO (o : List Spn) (n : Nat) : Prop := o.Pairwise (fun a b => a.2.1 < b.2.1 ∧ a.2.2 < b.2.1) ∧ ∀ s ∈ o, s.2.1 < n ∧ (s.2.2 = -1 ∨ ((s.2.1 : Int) < s.2.2 ∧ s.2.2 < n)) ∧ opensB s.1 = true

theorem okO_nil (n : Nat) : okO [] n := ⟨List.Pairwise.nil, by simp⟩
theorem okO_more {o : List Spn} {n : Nat} (h : okO o n) : okO o (n + 1) := ⟨h.1, fun s hs => by have := h.2 s hs; exact ⟨by omega, by rcases this.2.1 with h | h; exact .inl h; exact .inr ⟨h.1, by omega⟩, this.2.2⟩⟩
theorem okO_push {o : List Spn} {n : Nat} (h : okO o n) (op : Int) (ho : opensB op = true) : okO (o ++ [(op, n, -1)]) (n + 1) := by
  refine ⟨List.pairwise_append.2 ⟨h.1, List.pairwise_singleton _ _, ?_⟩, ?_⟩
  · intro a ha b hb
    simp at hb; subst hb
    exact ⟨(h.2 a ha).1, by rcases (h.2 a ha).2.1 with h | h <;> simp only [] <;> omega⟩
  · intro s hs
    rcases List.mem_append.1 hs with hs | hs
    · exact (okO_more h).2 s hs
    · simp at hs; subst hs; exact ⟨by simp, .inl rfl, ho⟩
theorem last_split {o : List Spn} {z : Spn} (h : o.getLast? = some z) : o = o.dropLast ++ [z] := by
  obtain ⟨ys, rfl⟩ := List.getLast?_eq_some_iff.1 h
  simp
theorem okO_drop {o : List Spn} {n : Nat} (h : okO o n) : okO o.dropLast n := ⟨h.1.sublist (List.dropLast_sublist _), fun s hs => h.2 s (((List.dropLast_sublist _).mem hs))⟩
theorem okO_else {o : List Spn} {n : Nat} {p : Int} {s : Nat} {t : Int} (h : okO o n) (hl : o.getLast? = some (p, s, t)) : okO (o.dropLast ++ [(p, s, (n : Int))]) (n + 1) := by
  have hz := h.2 (p, s, t) (List.mem_of_getLast? hl)
  have hs := last_split hl
  have hp := h.1
  rw [hs] at hp
  have hp2 := List.pairwise_append.1 hp
  refine ⟨List.pairwise_append.2 ⟨hp2.1, List.pairwise_singleton _ _, ?_⟩, ?_⟩
  · intro a ha b hb
    simp at hb; subst hb
    exact hp2.2.2 a ha (p, s, t) (by simp)
  · intro q hq
    rcases List.mem_append.1 hq with hq | hq
    · exact (okO_more (okO_drop h)).2 q hq
    · simp at hq; subst hq
      refine ⟨?_, .inr ⟨?_, ?_⟩, hz.2.2⟩
      · have := hz.1; simp only [] at this ⊢; omega
      · have := hz.1; simp only [] at this ⊢; omega
      · simp only []; omega
theorem stp_ok {x : Stp} {o o' : List Spn} {e e' : List Int} (h : stp x o e = some (o', e')) (hk : okO o e.length) : okO o' e'.length := by
  rw [stp_length h]
  unfold stp at h
  split at h
  · split at h
    · rename_i ho
      split at h
      · simp at h; rw [← h.1]; exact okO_push hk _ ho
      · cases h
    · split at h
      · split at h
        · cases h
        · rename_i hl
          split at h
          · simp at h; rw [← h.1]; exact okO_else hk hl
          · cases h
      · split at h
        · split at h
          · cases h
          · simp at h; rw [← h.1]; exact okO_more (okO_drop hk)
        · simp at h; rw [← h.1]; exact okO_more hk
  · cases h

/-- the model's list: ends, and at what is open the place of its other half -/
def markO (e : List Int) (o : List Spn) : List Int := o.foldl (fun e s => e.set s.2.1 s.2.2) e
theorem markO_length (e : List Int) (o : List Spn) : (markO e o).length = e.length := by
  induction o generalizing e with
  | nil => rfl
  | cons s r ih => simp [markO] at ih ⊢; rw [ih]; simp
theorem markO_snoc (e : List Int) (o : List Spn) (s : Spn) : markO e (o ++ [s]) = (markO e o).set s.2.1 s.2.2 := by simp [markO]
theorem markO_more (e : List Int) (o : List Spn) (y : List Int) (h : ∀ s ∈ o, s.2.1 < e.length) : markO (e ++ y) o = markO e o ++ y := by
  induction o generalizing e with
  | nil => rfl
  | cons s r ih =>
    have := h s (by simp)
    simp only [markO, List.foldl_cons]
    rw [List.set_append_left _ _ this]
    exact ih _ (fun q hq => by simp; exact h q (by simp [hq]))
theorem markO_set (e : List Int) (o : List Spn) (k : Nat) (v : Int) (h : ∀ s ∈ o, s.2.1 ≠ k) : markO (e.set k v) o = (markO e o).set k v := by
  induction o generalizing e with
  | nil => rfl
  | cons s r ih =>
    simp only [markO, List.foldl_cons]
    rw [List.set_comm _ _ (h s (by simp)).symm]
    exact ih _ (fun q hq => h q (by simp [hq]))
theorem markO_last {e : List Int} {o : List Spn} {p : Int} {s : Nat} {t : Int} (hk : okO o e.length) (hl : o.getLast? = some (p, s, t)) : (markO e o)[s]? = some t := by
  have hz := (hk.2 _ (List.mem_of_getLast? hl)).1
  rw [last_split hl, markO_snoc]
  simp only [] at hz ⊢
  rw [List.getElem?_set_self (by rw [markO_length]; exact hz)]
/-- a WElse, as the model sees it -/
theorem markO_else {e : List Int} {o : List Spn} {p : Int} {s : Nat} {t : Int} (hk : okO o e.length) (hl : o.getLast? = some (p, s, t)) :
    markO (e ++ [-1]) (o.dropLast ++ [(p, s, (e.length : Int))]) = (markO e o ++ [-1]).set s e.length := by
  have hz := (hk.2 _ (List.mem_of_getLast? hl)).1
  simp only [] at hz
  have h1 : markO e o = (markO e o.dropLast).set s t := by
    conv => lhs; rw [last_split hl]
    rw [markO_snoc]
  rw [markO_snoc, markO_more _ _ _ (fun q hq => (hk.2 q (((List.dropLast_sublist _).mem hq))).1), h1]
  simp only []
  rw [List.set_append_left _ _ (by rw [markO_length]; exact hz), List.set_append_left _ _ (by simp [markO_length]; exact hz), List.set_set]
theorem okO_lastlt {o : List Spn} {n : Nat} {p : Int} {s : Nat} {t : Int} (hk : okO o n) (hl : o.getLast? = some (p, s, t)) : ∀ q ∈ o.dropLast, q.2.1 < s := by
  have hp := hk.1
  rw [last_split hl] at hp
  intro q hq
  exact ((List.pairwise_append.1 hp).2.2 q hq (p, s, t) (by simp)).1
/-- a WEnd, as the model sees it, where there was no WElse -/
theorem markO_end0 {e : List Int} {o : List Spn} {p : Int} {s : Nat} (hk : okO o e.length) (hl : o.getLast? = some (p, s, -1)) :
    markO (putE (e ++ [(s : Int)]) s (-1) e.length) o.dropLast = ((markO e o ++ [-1]).set s e.length).set e.length s := by
  have hz := (hk.2 _ (List.mem_of_getLast? hl)).1
  have hlt := okO_lastlt hk hl
  simp only [] at hz
  have h1 : markO e o = (markO e o.dropLast).set s (-1) := by
    conv => lhs; rw [last_split hl]
    rw [markO_snoc]
  unfold putE
  rw [if_pos rfl, markO_set _ _ _ _ (fun q hq => by have := hlt q hq; omega), markO_more _ _ _ (fun q hq => (hk.2 q (((List.dropLast_sublist _).mem hq))).1), h1]
  have hL : (markO e o.dropLast).length = e.length := markO_length _ _
  generalize markO e o.dropLast = m at hL ⊢
  rw [List.set_append_left _ _ (by omega), List.set_append_left _ _ (by simp; omega), List.set_set, List.set_append_right _ _ (by simp; omega)]
  simp [hL]
/-- a WEnd, as the model sees it, where there was a WElse -/
theorem markO_end1 {e : List Int} {o : List Spn} {p : Int} {s : Nat} {t : Nat} (hk : okO o e.length) (hl : o.getLast? = some (p, s, (t : Int))) :
    markO (putE (e ++ [(s : Int)]) s t e.length) o.dropLast = (((markO e o ++ [-1]).set t e.length).set s e.length).set e.length s := by
  have hz := hk.2 _ (List.mem_of_getLast? hl)
  have hlt := okO_lastlt hk hl
  simp only [] at hz
  have hst : s < t ∧ t < e.length := by rcases hz.2.1 with h | h <;> omega
  have hz1 := hz.1
  have h1 : markO e o = (markO e o.dropLast).set s (t : Int) := by
    conv => lhs; rw [last_split hl]
    rw [markO_snoc]
  unfold putE
  rw [if_neg (by omega), Int.toNat_natCast, markO_set _ _ _ _ (fun q hq => by have := hlt q hq; omega), markO_set _ _ _ _ (fun q hq => by have := hlt q hq; omega), markO_more _ _ _ (fun q hq => (hk.2 q (((List.dropLast_sublist _).mem hq))).1), h1]
  have hL : (markO e o.dropLast).length = e.length := markO_length _ _
  generalize markO e o.dropLast = m at hL ⊢
  rw [List.set_append_left _ _ (by omega), List.set_append_left _ _ (by simp; omega), List.set_append_left _ _ (by simp; omega), List.set_append_left _ _ (by simp; omega), List.set_append_right _ _ (by simp; omega)]
  rw [List.set_comm (i := s) (j := t) _ _ (by omega), List.set_comm (i := s) (j := t) _ _ (by omega), List.set_set]
  simp [hL]

/-- the depths, told by the Ops alone -/
def depL : Int → List Stp → List Int
  | _, [] => []
  | n, x :: r => n :: depL (if opensB x.1 = true then n + 1 else if x.1 = 19 then n - 1 else n) r
theorem runN_snoc_none {r : List Stp} {x : Stp} {o : List Spn} {e d : List Int} (h : stp x o e = none) : runN (x :: r) o e d = none := by simp [runN, h]
theorem runN_snoc_some {r : List Stp} {x : Stp} {o o' : List Spn} {e d e' : List Int} (h : stp x o e = some (o', e')) : runN (x :: r) o e d = runN r o' e' (d ++ [(o.length : Int)]) := by simp [runN, h]
theorem stp_depth {x : Stp} {o o' : List Spn} {e e' : List Int} (h : stp x o e = some (o', e')) : (o'.length : Int) = if opensB x.1 = true then (o.length : Int) + 1 else if x.1 = 19 then (o.length : Int) - 1 else o.length := by
  unfold stp at h
  split at h
  · split at h
    · rename_i ho
      split at h
      · simp at h; rw [← h.1, if_pos ho]; simp
      · cases h
    · rename_i ho
      rw [if_neg ho]
      split at h
      · rename_i h18
        rw [if_neg (by omega)]
        split at h
        · cases h
        · rename_i hl
          split at h
          · simp at h; rw [← h.1]; have := congrArg List.length (last_split hl); simp at this ⊢; omega
          · cases h
      · split at h
        · rename_i h19
          rw [if_pos h19]
          split at h
          · cases h
          · rename_i hl
            simp at h; rw [← h.1]; have := congrArg List.length (last_split hl); simp at this ⊢; omega
        · rename_i h19
          rw [if_neg h19]
          simp at h; rw [← h.1]
  · cases h
theorem runN_depths {r : List Stp} {o o' : List Spn} {e d e' d' : List Int} (h : runN r o e d = some (o', e', d')) : d' = d ++ depL o.length r := by
  induction r generalizing o e d with
  | nil => simp [runN] at h; simp [depL, h]
  | cons x r ih =>
    cases hs : stp x o e with
    | none => rw [runN_snoc_none hs] at h; cases h
    | some p =>
      obtain ⟨o1, e1⟩ := p
      rw [runN_snoc_some hs] at h
      rw [ih h, stp_depth hs]
      simp [depL]
theorem runN_length {r : List Stp} {o o' : List Spn} {e d e' d' : List Int} (h : runN r o e d = some (o', e', d')) : e'.length = e.length + r.length ∧ d'.length = d.length + r.length := by
  induction r generalizing o e d with
  | nil => simp [runN] at h; simp [h]
  | cons x r ih =>
    cases hs : stp x o e with
    | none => rw [runN_snoc_none hs] at h; cases h
    | some p =>
      obtain ⟨o1, e1⟩ := p
      rw [runN_snoc_some hs] at h
      have := ih h
      have hl := stp_length hs
      simp at this ⊢
      omega
theorem nestO_length {xs : List Stp} {e d : List Int} (h : nestO xs = some (e, d)) : e.length = xs.length ∧ d.length = xs.length ∧ xs.length ≤ 60 := by
  unfold nestO at h
  split at h
  · rename_i h60
    split at h
    · rename_i hr
      simp at h
      obtain ⟨rfl, rfl⟩ := h
      have := runN_length hr
      simp at this
      exact ⟨this.1, this.2, h60⟩
    · cases h
  · cases h
theorem nestO_depths {xs : List Stp} {e d : List Int} (h : nestO xs = some (e, d)) : d = depL 0 xs := by
  unfold nestO at h
  split at h
  · split at h
    · rename_i hr
      simp at h
      obtain ⟨rfl, rfl⟩ := h
      have := runN_depths hr
      simpa using this
    · cases h
  · cases h
end Go.Proofs.YthkkhinmdlmhkaaDoor
