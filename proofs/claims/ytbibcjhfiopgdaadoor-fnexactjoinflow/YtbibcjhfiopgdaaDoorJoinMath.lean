/- Blocks that are made one with those that they lead to, as plain lists. -/
import Derived.Test.YtbibcjhfiopgdaaDoorPredMath
namespace Go.Proofs.YtbibcjhfiopgdaaDoor
open Go
set_option linter.unusedVariables false

/-- a block can take the one that it leads to: its place, and the two blocks -/
def CanT (f : List Blk) (P : List (List Nat)) (k t : Nat) (b o : Blk) : Prop := f[k]? = some b ∧ b.go = 1 ∧ b.next = [(t : Int)] ∧ ¬ t = 0 ∧ (∃ p, P[t]? = some [p]) ∧ f[t]? = some o ∧ b.code.length + o.code.length ≤ 60
def Can (f : List Blk) (P : List (List Nat)) (k : Nat) : Prop := ∃ t b o, CanT f P k t b o
def joinAt (f : List Blk) (k : Nat) (b o : Blk) : List Blk := f.set k ⟨b.code ++ o.code, o.go, o.test, o.next⟩
/-- the first that can take another one -/
def First (f : List Blk) (P : List (List Nat)) (l : List Nat) (k : Nat) : Prop := ∃ i : Nat, l[i]? = some k ∧ Can f P k ∧ ∀ (j x : Nat), j < i → l[j]? = some x → ¬ Can f P x
def NoneT (f : List Blk) (P : List (List Nat)) (l : List Nat) : Prop := ∀ k ∈ l, ¬ Can f P k
inductive Joins : List Blk → List Blk → Prop
  | done {f : List Blk} {P : List (List Nat)} {l : List Nat} : IsRch f l → IsPreds f P → NoneT f P l → Joins f f
  | step {f g : List Blk} {P : List (List Nat)} {l : List Nat} {k t : Nat} {b o : Blk} : IsRch f l → IsPreds f P → First f P l k → CanT f P k t b o → Joins (joinAt f k b o) g → Joins f g
theorem CanT.unique {f : List Blk} {P : List (List Nat)} {k t t' : Nat} {b o b' o' : Blk} (h : CanT f P k t b o) (h' : CanT f P k t' b' o') : b = b' ∧ t = t' ∧ o = o' := by
  obtain ⟨h1, h2, h3, h4, h5, h6, h7⟩ := h
  obtain ⟨g1, g2, g3, g4, g5, g6, g7⟩ := h'
  rw [h1] at g1
  cases g1
  rw [h3] at g3
  have ht : t = t' := by injection g3 with e1; omega
  subst ht
  rw [h6] at g6
  cases g6
  exact ⟨rfl, rfl, rfl⟩
theorem First.unique {f : List Blk} {P : List (List Nat)} {l : List Nat} {k k' : Nat} (h : First f P l k) (h' : First f P l k') : k = k' := by
  obtain ⟨i, h1, h2, h3⟩ := h
  obtain ⟨j, g1, g2, g3⟩ := h'
  rcases Nat.lt_trichotomy i j with e | e | e
  · exact absurd h2 (g3 i k e h1)
  · subst e; rw [h1] at g1; exact Option.some.inj g1
  · exact absurd g2 (h3 j k' e g1)
theorem First.not {f : List Blk} {P : List (List Nat)} {l : List Nat} {k : Nat} (h : First f P l k) (hn : NoneT f P l) : False := by
  obtain ⟨i, h1, h2, _⟩ := h
  exact hn k (List.mem_of_getElem? h1) h2
theorem Joins.unique {f g g' : List Blk} (h : Joins f g) (h' : Joins f g') : g = g' := by
  induction h with
  | done hl hp hn =>
    cases h' with
    | done => rfl
    | step hl' hp' hf' _ _ =>
      obtain rfl := hl.unique hl'
      obtain rfl := hp.unique hp'
      exact (hf'.not hn).elim
  | step hl hp hf hc hj ih =>
    cases h' with
    | done hl' hp' hn' =>
      obtain rfl := hl.unique hl'
      obtain rfl := hp.unique hp'
      exact (hf.not hn').elim
    | step hl' hp' hf' hc' hj' =>
      obtain rfl := hl.unique hl'
      obtain rfl := hp.unique hp'
      obtain rfl := hf.unique hf'
      obtain ⟨rfl, rfl, rfl⟩ := hc.unique hc'
      exact ih hj'
/-- one that can take another is not that one -/
theorem CanT.ne {f : List Blk} {P : List (List Nat)} {k t : Nat} {b o : Blk} (h : CanT f P k t b o) (hp : IsPreds f P) (hk : Rch f k) : ¬ t = k := by
  intro e
  subst e
  obtain ⟨h1, h2, h3, h4, ⟨p, h5⟩, h6, h7⟩ := h
  have hl : Leads f t t := ⟨b, h1, by rw [h3]; simp⟩
  have hpp : p = t := by
    have := ((hp.2 t [p] h5).2 t).2 ⟨hk, hl⟩
    simp at this; exact this.symm
  subst hpp
  have key : ∀ x, Rch f x → ¬ x = p := by
    intro x hx
    induction hx with
    | start => exact fun e => h4 e.symm
    | step hi hlj ih =>
      intro e
      subst e
      have := ((hp.2 _ _ h5).2 _).2 ⟨hi, hlj⟩
      simp at this
      exact ih this
  exact key p hk rfl
theorem joinAt_length (f : List Blk) (k : Nat) (b o : Blk) : (joinAt f k b o).length = f.length := by simp [joinAt]
theorem goodBlk_parts {m : Nat} {b : Blk} (h : goodBlk m b = true) : allFlt b.code = true ∧ allNext m b.next = true ∧ b.code.length ≤ 60 ∧ waysB b.go b.test b.next.length = true := by
  simp only [goodBlk, Bool.and_eq_true, decide_eq_true_eq] at h
  exact ⟨h.1, h.2.1, h.2.2.1, h.2.2.2⟩
theorem CanT.good {f : List Blk} {P : List (List Nat)} {k t : Nat} {b o : Blk} (h : CanT f P k t b o) (hg : goodFlow f = true) : goodFlow (joinAt f k b o) = true := by
  obtain ⟨h1, h2, h3, h4, h5, h6, h7⟩ := h
  simp only [goodFlow, Bool.and_eq_true] at hg ⊢
  rw [joinAt_length]
  refine ⟨?_, hg.2⟩
  refine all_of fun j x hx => ?_
  have hb := goodBlk_parts (all_at hg.1 h1)
  have ho := goodBlk_parts (all_at hg.1 h6)
  by_cases e : j = k
  · subst e
    rw [joinAt, List.getElem?_set_self (List.getElem?_eq_some_iff.1 h1).1] at hx
    cases hx
    have : allFlt (b.code ++ o.code) = true := by
      unfold allFlt at hb ho ⊢
      rw [List.all_append, hb.1, ho.1]; rfl
    simp only [goodBlk, Bool.and_eq_true, decide_eq_true_eq]
    exact ⟨this, ho.2.1, by simp; omega, ho.2.2.2⟩
  · rw [joinAt, List.getElem?_set_ne (fun h => e h.symm)] at hx
    exact all_at hg.1 hx
/-- fewer are come to -/
theorem CanT.fewer {f : List Blk} {P : List (List Nat)} {k t : Nat} {b o : Blk} (h : CanT f P k t b o) (hp : IsPreds f P) (hk : Rch f k) : Rch f t ∧ ∀ x, Rch (joinAt f k b o) x → Rch f x ∧ ¬ x = t := by
  have hne := h.ne hp hk
  obtain ⟨h1, h2, h3, h4, ⟨p, h5⟩, h6, h7⟩ := h
  have hkt : Leads f k t := ⟨b, h1, by rw [h3]; simp⟩
  have hrt : Rch f t := .step hk hkt
  have hpk : p = k := by
    have := ((hp.2 t [p] h5).2 k).2 ⟨hk, hkt⟩
    simp at this; exact this.symm
  subst hpk
  have only : ∀ i, Rch f i → Leads f i t → i = p := by
    intro i hi hl
    have := ((hp.2 t [p] h5).2 i).2 ⟨hi, hl⟩
    simpa using this
  refine ⟨hrt, fun x hx => ?_⟩
  induction hx with
  | start => exact ⟨.start, fun e => h4 e.symm⟩
  | @step i j hi hl ih =>
    obtain ⟨c, hc, hm⟩ := hl
    by_cases e : i = p
    · subst e
      rw [joinAt, List.getElem?_set_self (List.getElem?_eq_some_iff.1 h1).1] at hc
      cases hc
      have hlt : Leads f t j := ⟨o, h6, hm⟩
      refine ⟨.step hrt hlt, fun e2 => ?_⟩
      subst e2
      exact hne (only j hrt hlt)
    · rw [joinAt, List.getElem?_set_ne (fun h => e h.symm)] at hc
      have hlj : Leads f i j := ⟨c, hc, hm⟩
      refine ⟨.step ih.1 hlj, fun e2 => ?_⟩
      subst e2
      exact e (only i ih.1 hlj)
theorem rch_less {f f' : List Blk} {l l' : List Nat} {t : Nat} (h : IsRch f l) (h' : IsRch f' l') (ht : Rch f t) (hs : ∀ x, Rch f' x → Rch f x ∧ ¬ x = t) : l'.length < l.length := by
  have h1 : (t :: l').Nodup := by
    rw [List.nodup_cons]
    exact ⟨fun hm => ((hs t ((h'.2 t).1 hm)).2) rfl, List.Pairwise.imp (fun h => Nat.ne_of_lt h) h'.1⟩
  have h2 : ∀ x ∈ t :: l', x ∈ l := by
    intro x hx
    rcases List.mem_cons.1 hx with rfl | hx
    · exact (h.2 x).2 ht
    · exact (h.2 x).2 (hs x ((h'.2 x).1 hx)).1
  have key : ∀ (m : List Nat) (l : List Nat), m.Nodup → (∀ x ∈ m, x ∈ l) → m.length ≤ l.length := by
    intro m
    induction m with
    | nil => intro l _ _; simp
    | cons x r ih =>
      intro l hn hm
      have hn' := List.nodup_cons.1 hn
      have hx := hm x (by simp)
      have := ih (l.erase x) hn'.2 (fun y hy => by
        have hy1 := hm y (by simp [hy])
        exact (List.mem_erase_of_ne (fun e => by subst e; exact hn'.1 hy)).2 hy1)
      rw [List.length_erase_of_mem hx] at this
      have := List.length_pos_of_mem hx
      simp; omega
  have := key _ _ h1 h2
  simp at this
  omega
theorem exists_first {f : List Blk} {P : List (List Nat)} (l : List Nat) : NoneT f P l ∨ ∃ k, First f P l k := by
  classical
  by_cases h : ∃ i : Nat, ∃ k : Nat, l[i]? = some k ∧ Can f P k
  · right
    obtain ⟨i, hi, hmin⟩ : ∃ i : Nat, (∃ k : Nat, l[i]? = some k ∧ Can f P k) ∧ ∀ j : Nat, j < i → ¬ ∃ k : Nat, l[j]? = some k ∧ Can f P k := by
      obtain ⟨i, hi⟩ := h
      induction i using Nat.strongRecOn with
      | _ i ih =>
        by_cases hj : ∃ j : Nat, j < i ∧ ∃ k : Nat, l[j]? = some k ∧ Can f P k
        · obtain ⟨j, hlt, hp⟩ := hj
          exact ih j hlt hp
        · exact ⟨i, hi, fun j hlt hp => hj ⟨j, hlt, hp⟩⟩
    obtain ⟨k, h1, h2⟩ := hi
    exact ⟨k, i, h1, h2, fun j x hj hx hc => hmin j hj ⟨x, hx, hc⟩⟩
  · left
    intro k hk hc
    obtain ⟨i, hi, rfl⟩ := List.mem_iff_getElem.1 hk
    exact h ⟨i, _, List.getElem?_eq_getElem hi, hc⟩
end Go.Proofs.YtbibcjhfiopgdaaDoor
