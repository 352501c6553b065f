/- Plain facts on going through good code with a height, with what is open and with what is dead. -/
import Derived.Test.YthkkhinmdlmhkaaDoorTargetMath
namespace Go.Proofs.YthkkhinmdlmhkaaDoor
set_option linter.unusedVariables false

/-- one that is open: the height at which it began, and whether it was dead ahead of it -/
abbrev Frm := Int × Bool
/-- the innermost one -/
def inn (o : List Frm) : Frm := o.getLast?.getD (0, false)
def offN (op : Int) : Int := if op = 1 ∨ op = 2 then 0 else if 4 ≤ op ∧ op ≤ 9 then 2 else if op = 10 then 1 else if op = 11 then 2 else if op = 3 ∨ op = 12 ∨ op = 13 ∨ op = 17 ∨ op = 21 ∨ op = 22 then 1 else 0
def onN (op : Int) : Int := if op = 1 ∨ op = 2 then 1 else if 4 ≤ op ∧ op ≤ 9 then 1 else if op = 10 then 1 else 0
theorem off_range (op : Int) : 0 ≤ offN op ∧ offN op ≤ 2 := by unfold offN; split <;> (try split) <;> (try split) <;> (try split) <;> (try split) <;> omega
theorem on_range (op : Int) : 0 ≤ onN op ∧ onN op ≤ 1 := by unfold onN; split <;> (try split) <;> (try split) <;> omega

/-- what a step comes to: a kind of fault, or what is open, the height and whether it is dead behind it -/
inductive VR where
  | bad (c : Nat)
  | go (o : List Frm) (h : Int) (d : Bool)
/-- the words being done with -/
def vlead (op : Int) (o : List Frm) (h : Int) (d : Bool) : VR :=
  if op = 14 ∨ op = 20 ∨ op = 22 then .go o (inn o).1 true
  else if opensB op = true then .go (o ++ [(h, d)]) h d
  else if op = 18 then (if h = (inn o).1 then .go o h (inn o).2 else .bad 3)
  else if op = 19 then (if h = (inn o).1 then .go o.dropLast h (inn o).2 else .bad 3)
  else .go o h d
def takeH (op : Int) (o : List Frm) (h : Int) : Int := if h - offN op < (inn o).1 then (inn o).1 else h - offN op
def vstp (op : Int) (o : List Frm) (h : Int) (d : Bool) : VR :=
  if (decide (h - offN op < (inn o).1) && !d) = true then .bad 2
  else if 4 < takeH op o h + onN op then .bad 4
  else vlead op o (takeH op o h + onN op) d
/-- what the whole walk comes to: a kind of fault and its place, or the heights and what is come to -/
inductive WR where
  | bad (c : Nat) (at' : Nat)
  | fine (hs : List Int) (rs : List Bool)
def walkV : List Stp → List Frm → Int → Bool → List Int → List Bool → WR
  | [], o, h, d, hs, rs => if h = (inn o).1 then .fine (hs ++ [h]) rs else .bad 3 hs.length
  | x :: r, o, h, d, hs, rs => match vstp x.1 o h d with
    | .bad c => .bad c hs.length
    | .go o' h' d' => walkV r o' h' d' (hs ++ [h]) (rs ++ [!d])
def validR (xs : List Stp) : WR := if (nestO xs).isSome = true then walkV xs [(0, false)] 0 false [] [] else .bad 1 0

/-- what holds of what is open and of the height -/
structure OkV (o : List Frm) (h : Int) : Prop where
  first : o[0]? = some (0, false)
  bases : ∀ f ∈ o, 0 ≤ f.1 ∧ f.1 ≤ 4
  low : (inn o).1 ≤ h
  high : h ≤ 4
  rise : o.Pairwise (fun a b => a.1 ≤ b.1)
theorem OkV.start : OkV [(0, false)] 0 := ⟨rfl, by simp, by simp [inn], by omega, List.pairwise_singleton _ _⟩
theorem OkV.pos {o : List Frm} {h : Int} (k : OkV o h) : 0 < o.length := by
  rcases o with _ | ⟨f, r⟩
  · have := k.first; simp at this
  · simp
theorem inn_snoc (o : List Frm) (f : Frm) : inn (o ++ [f]) = f := by simp [inn]
theorem inn_at {o : List Frm} (h : 0 < o.length) : o[o.length - 1]? = some (inn o) := by
  unfold inn
  rw [List.getLast?_eq_getElem?]
  rw [List.getElem?_eq_getElem (by omega)]
  rfl
theorem inn_mem {o : List Frm} (h : 0 < o.length) : inn o ∈ o := List.mem_of_getElem? (inn_at h)
theorem inn_split {o : List Frm} (h : 0 < o.length) : o = o.dropLast ++ [inn o] := by
  have h2 : o.getLast? = some (inn o) := by rw [List.getLast?_eq_getElem?]; exact inn_at h
  generalize inn o = z at h2 ⊢
  obtain ⟨ys, rfl⟩ := List.getLast?_eq_some_iff.1 h2
  simp
theorem OkV.base {o : List Frm} {h : Int} (k : OkV o h) : 0 ≤ (inn o).1 ∧ (inn o).1 ≤ 4 := k.bases _ (inn_mem k.pos)
theorem OkV.drop {o : List Frm} {h : Int} (k : OkV o h) (h2 : 2 ≤ o.length) (hb : h = (inn o).1) : OkV o.dropLast h := by
  have hs := inn_split k.pos
  have hp := k.rise
  rw [hs] at hp
  have hp2 := List.pairwise_append.1 hp
  refine ⟨?_, fun f hf => k.bases f ((List.dropLast_sublist _).mem hf), ?_, k.high, hp2.1⟩
  · rw [List.getElem?_dropLast]
    have := k.first
    simp [this]
    omega
  · have hm : inn o.dropLast ∈ o.dropLast := inn_mem (by simp; omega)
    have := hp2.2.2 _ hm (inn o) (by simp)
    omega
theorem OkV.push {o : List Frm} {h : Int} (k : OkV o h) (d : Bool) : OkV (o ++ [(h, d)]) h := by
  have hb := k.base
  refine ⟨?_, ?_, by rw [inn_snoc]; exact Int.le_refl _, k.high, ?_⟩
  · rw [List.getElem?_append_left k.pos]; exact k.first
  · intro f hf
    rcases List.mem_append.1 hf with hf | hf
    · exact k.bases f hf
    · simp at hf; subst hf; exact ⟨by have := k.low; simp only []; omega, k.high⟩
  · refine List.pairwise_append.2 ⟨k.rise, List.pairwise_singleton _ _, ?_⟩
    intro a ha b hb'
    simp at hb'; subst hb'
    have hs := inn_split k.pos
    have hp := k.rise
    rw [hs] at hp ha
    have hp2 := List.pairwise_append.1 hp
    have := k.low
    rcases List.mem_append.1 ha with ha | ha
    · have := hp2.2.2 a ha (inn o) (by simp); simp only []; omega
    · simp at ha; subst ha; simp only []; omega
theorem takeH_low (op : Int) (o : List Frm) (h : Int) : (inn o).1 ≤ takeH op o h := by unfold takeH; split <;> omega
theorem takeH_high {op : Int} {o : List Frm} {h : Int} (k : OkV o h) : takeH op o h ≤ 4 := by
  have := k.base; have := k.high; have := off_range op; unfold takeH; split <;> omega
/-- how many are open behind a step -/
def depO (op : Int) (n : Nat) : Nat := if opensB op = true then n + 1 else if op = 19 then n - 1 else n
theorem vlead_ok {op : Int} {o o' : List Frm} {h h' : Int} {d d' : Bool} (k : OkV o h) (h2 : op = 19 → 2 ≤ o.length) (hs : vlead op o h d = .go o' h' d') : OkV o' h' ∧ o'.length = depO op o.length := by
  unfold vlead at hs
  unfold depO
  split at hs
  · rename_i hp
    cases hs
    refine ⟨⟨k.first, k.bases, Int.le_refl _, k.base.2, k.rise⟩, ?_⟩
    rw [if_neg (by simp [opensB]; omega), if_neg (by omega)]
  · split at hs
    · rename_i hp ho
      cases hs
      exact ⟨k.push d, by rw [if_pos ho]; simp⟩
    · rename_i hp ho
      rw [if_neg ho]
      split at hs
      · rename_i h18
        split at hs
        · cases hs; exact ⟨k, by rw [if_neg (by omega)]⟩
        · cases hs
      · split at hs
        · rename_i h19
          split at hs
          · rename_i he
            cases hs
            exact ⟨k.drop (h2 h19) he, by rw [if_pos h19]; simp⟩
          · cases hs
        · rename_i h19
          cases hs
          exact ⟨k, by rw [if_neg h19]⟩
theorem vstp_ok {op : Int} {o o' : List Frm} {h h' : Int} {d d' : Bool} (k : OkV o h) (h2 : op = 19 → 2 ≤ o.length) (hs : vstp op o h d = .go o' h' d') : OkV o' h' ∧ o'.length = depO op o.length := by
  unfold vstp at hs
  split at hs
  · cases hs
  · split at hs
    · cases hs
    · rename_i h4
      have hk : OkV o (takeH op o h + onN op) := ⟨k.first, k.bases, by have := takeH_low op o h; have := on_range op; omega, by omega, k.rise⟩
      exact vlead_ok hk h2 hs
end Go.Proofs.YthkkhinmdlmhkaaDoor
