/- What the program's and the model's steps do to a graph that becomes smaller, as plain relations. -/
import Derived.Test.YthcenlplfcbfjaaTake8
import Derived.Test.YthcenlplfcbfjaaLimMath8
namespace Go.Proofs.Ythcenlplfcbfjaa
open Go Go.RowKit
set_option linter.unusedVariables false
set_option linter.unusedSimpArgs false

/-- the nodes and sets as a plain relation -/
def lst (ns : List Nat) (N : List (List Nat)) : Lst := ⟨fun x => x ∈ ns, fun a b => a ∈ ns ∧ a ≠ b ∧ b ∈ N.getD a []⟩
/-- edges lead to nodes that are left -/
def EndsN (ns : List Nat) (N : List (List Nat)) : Prop := ∀ a ∈ ns, ∀ b ∈ N.getD a [], b ∈ ns
/-- no edge leads from a node to itself -/
def NoSelf (ns : List Nat) (N : List (List Nat)) : Prop := ∀ a ∈ ns, a ∉ N.getD a []
theorem getD_some {N : List (List Nat)} {a : Nat} {r : List Nat} (h : N[a]? = some r) : N.getD a [] = r := by rw [List.getD_eq_getElem?_getD, h]; rfl
theorem getD_set_self {N : List (List Nat)} {a : Nat} {r : List Nat} (h : a < N.length) : (N.set a r).getD a [] = r := getD_some (List.getElem?_set_self h)
theorem getD_set_ne {N : List (List Nat)} {a b : Nat} {r : List Nat} (h : a ≠ b) : (N.set a r).getD b [] = N.getD b [] := by rw [List.getD_eq_getElem?_getD, List.getD_eq_getElem?_getD, List.getElem?_set_ne h]
theorem SelfLess.getD {pre : List Nat} {N N' : List (List Nat)} (h : SelfLess pre N N') (a : Nat) : N'.getD a [] = if a ∈ pre then dropN (N.getD a []) a else N.getD a [] := by
  cases hr : N[a]? with
  | none =>
    have h1 : N.getD a [] = [] := by rw [List.getD_eq_getElem?_getD, hr]; rfl
    have h2 : N'.getD a [] = [] := by
      rw [List.getD_eq_getElem?_getD, List.getElem?_eq_none (by rw [h.1]; exact List.getElem?_eq_none_iff.1 hr)]
      rfl
    rw [h1, h2]
    split <;> simp [dropN]
  | some r =>
    rw [getD_some hr, getD_some (h.2 a r hr)]
theorem SelfLess.lst {ns : List Nat} {N N' : List (List Nat)} (h : SelfLess ns N N') : lst ns N' = lst ns N := by
  refine Lst.ext' (fun x => Iff.rfl) (fun a b => ?_)
  unfold Go.Proofs.Ythcenlplfcbfjaa.lst
  simp only []
  constructor
  · rintro ⟨h1, h2, h3⟩
    rw [h.getD, if_pos h1, mem_dropN] at h3
    exact ⟨h1, h2, h3.1⟩
  · rintro ⟨h1, h2, h3⟩
    refine ⟨h1, h2, ?_⟩
    rw [h.getD, if_pos h1, mem_dropN]
    exact ⟨h3, fun e => h2 e.symm⟩
theorem SelfLess.noSelf {ns : List Nat} {N N' : List (List Nat)} (h : SelfLess ns N N') : NoSelf ns N' := fun a ha hm => by
  rw [h.getD, if_pos ha, mem_dropN] at hm
  exact hm.2 rfl
theorem SelfLess.ends {ns : List Nat} {N N' : List (List Nat)} (h : SelfLess ns N N') (he : EndsN ns N) : EndsN ns N' := fun a ha b hb => by
  rw [h.getD, if_pos ha, mem_dropN] at hb
  exact he a ha b hb.1
theorem mem_leadsTo {N : List (List Nat)} {k q : Nat} {ns : List Nat} : q ∈ leadsTo N k ns ↔ q ∈ ns ∧ k ∈ N.getD q [] := by
  unfold leadsTo
  rw [List.mem_filter, decide_eq_true_iff]
theorem can_of {N : List (List Nat)} {k p : Nat} {ns : List Nat} (hs : NoSelf ns N) (hk : k ∈ ns) (h0 : k ≠ 0) (h : leadsTo N k ns = [p]) : (lst ns N).Can k p ∧ p ∈ ns ∧ k ≠ p := by
  have hp : p ∈ leadsTo N k ns := by rw [h]; simp
  obtain ⟨hp1, hp2⟩ := mem_leadsTo.1 hp
  have hne : k ≠ p := fun e => by subst e; exact hs k hk hp2
  refine ⟨⟨hk, h0, ⟨hp1, fun e => hne e.symm, hp2⟩, fun q hq => ?_⟩, hp1, hne⟩
  have : q ∈ leadsTo N k ns := mem_leadsTo.2 ⟨hq.1, hq.2.2⟩
  rw [h] at this
  simpa using this
theorem of_can {N : List (List Nat)} {k p : Nat} {ns : List Nat} (hs : NoSelf ns N) (hd : ns.Nodup) (c : (lst ns N).Can k p) : leadsTo N k ns = [p] := by
  have h1 : ∀ q, q ∈ leadsTo N k ns ↔ q = p := fun q => by
    rw [mem_leadsTo]
    constructor
    · rintro ⟨h1, h2⟩
      exact c.only q ⟨h1, fun e => by subst e; exact hs q h1 h2, h2⟩
    · rintro rfl
      exact ⟨c.lead.1, c.lead.2.2⟩
  have h2 : (leadsTo N k ns).Nodup := hd.filter _
  match hl : leadsTo N k ns with
  | [] => rw [hl] at h1; exact absurd ((h1 p).2 rfl) (by simp)
  | [q] => rw [hl] at h1; rw [(h1 q).1 (by simp)]
  | q :: r :: t =>
    rw [hl] at h1 h2
    have e1 := (h1 q).1 (by simp)
    have e2 := (h1 r).1 (by simp)
    simp [e1, e2] at h2
theorem onlyP_nat {L : List Nat} {p : Nat} (h : onlyP L = (p : Int)) : L = [p] := by
  match L, h with
  | [], h => exact absurd h (by simp [onlyP])
  | [q], h => have e : q = p := (by simp only [onlyP] at h; omega); rw [e]
  | _ :: _ :: _, h => exact absurd h (by simp [onlyP])
theorem onlyP_end {N : List (List Nat)} {ns : List Nat} (hs : NoSelf ns N) (hd : ns.Nodup) (h : ∀ k ∈ ns, k = 0 ∨ onlyP (leadsTo N k ns) = -1) : (lst ns N).End := fun k p c => by
  have := of_can hs hd c
  rcases h k c.node with e | e
  · exact c.ne e
  · rw [this] at e
    simp only [onlyP] at e
    omega
/-- the state behind: sets as they are told -/
theorem merge_is {N N' : List (List Nat)} {k p : Nat} {ns ns' : List Nat} (hs : NoSelf ns N) (c : (lst ns N).Can k p) (hns : ∀ x, x ∈ ns' ↔ x ∈ ns ∧ x ≠ k) (hp : ∀ x, x ≠ p → (x ∈ N'.getD p [] ↔ ((x ∈ N.getD p [] ∧ x ≠ k) ∨ x ∈ N.getD k []))) (ho : ∀ a, a ≠ p → N'.getD a [] = N.getD a []) : lst ns' N' = (lst ns N).merge k p := by
  have hkp : k ≠ p := fun e => c.lead.2.1 e.symm
  refine Lst.ext' (fun x => hns x) (fun a b => ?_)
  unfold lst Lst.merge
  simp only []
  rw [hns a]
  constructor
  · rintro ⟨⟨h1, h2⟩, h3, h4⟩
    by_cases e : a = p
    · subst e
      rcases (hp b (fun e => h3 e.symm)).1 h4 with h | h
      · exact ⟨h2, h.2, h3, .inl ⟨h1, h3, h.1⟩⟩
      · have hbk : b ≠ k := fun e => by subst e; exact hs b c.node h
        exact ⟨h2, hbk, h3, .inr ⟨rfl, c.node, fun e => hbk e.symm, h⟩⟩
    · rw [ho a e] at h4
      refine ⟨h2, fun e2 => ?_, h3, .inl ⟨h1, h3, h4⟩⟩
      subst e2
      exact e (c.only a ⟨h1, h3, h4⟩)
  · rintro ⟨h2, h3, h4, (⟨h5, h6, h7⟩ | ⟨rfl, h5, h6, h7⟩)⟩
    · refine ⟨⟨h5, h2⟩, h4, ?_⟩
      by_cases e : a = p
      · subst e
        exact (hp b (fun e => h4 e.symm)).2 (.inl ⟨h7, h3⟩)
      · rw [ho a e]; exact h7
    · exact ⟨⟨c.lead.1, h2⟩, h4, (hp b (fun e => h4 e.symm)).2 (.inr h7)⟩
theorem ends_merge {N N' : List (List Nat)} {k p : Nat} {ns ns' : List Nat} (he : EndsN ns N) (hs : NoSelf ns N) (c : (lst ns N).Can k p) (hns : ∀ x, x ∈ ns' ↔ x ∈ ns ∧ x ≠ k) (hp : ∀ x, x ∈ N'.getD p [] → ((x ∈ N.getD p [] ∧ x ≠ k) ∨ x ∈ N.getD k [])) (ho : ∀ a, a ≠ p → N'.getD a [] = N.getD a []) : EndsN ns' N' := fun a ha b hb => by
  rw [hns] at ha ⊢
  by_cases e : a = p
  · subst e
    rcases hp b hb with h | h
    · exact ⟨he a ha.1 b h.1, h.2⟩
    · exact ⟨he k c.node b h, fun e => by subst e; exact hs b c.node h⟩
  · rw [ho a e] at hb
    exact ⟨he a ha.1 b hb, fun e2 => by subst e2; exact e (c.only a ⟨ha.1, fun e3 => by subst e3; exact hs a ha.1 hb, hb⟩)⟩
theorem dropN_count {ns : List Nat} (h : ns.Pairwise (· < ·)) {k : Nat} (hk : k ∈ ns) : (dropN ns k).length + 1 = ns.length := by
  have := (dropN_one h hk).1
  have : 0 < ns.length := List.length_pos_of_mem hk
  omega
end Go.Proofs.Ythcenlplfcbfjaa
