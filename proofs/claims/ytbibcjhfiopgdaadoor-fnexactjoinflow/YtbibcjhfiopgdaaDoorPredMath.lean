/- Which blocks lead to each block, as plain lists. -/
import Derived.Test.YtbibcjhfiopgdaaDoorReachMath
namespace Go.Proofs.YtbibcjhfiopgdaaDoor
open Go
set_option linter.unusedVariables false

/-- what is told of who leads where, when so many of those that are come to were gone through, and so many Next of one more -/
def InP (f : List Blk) (l : List Nat) (i j : Nat) (ns : List Int) (x k : Nat) : Prop := (∃ i', i' < i ∧ l[i']? = some k ∧ Leads f k x) ∨ (l[i]? = some k ∧ ∃ q, q < j ∧ ns[q]? = some (x : Int))
def PS (f : List Blk) (l : List Nat) (i j : Nat) (ns : List Int) (P : List (List Nat)) : Prop := P.length = f.length ∧ ∀ (x : Nat) r, P[x]? = some r → r.Pairwise (· < ·) ∧ ∀ k, k ∈ r ↔ InP f l i j ns x k
/-- for each block those that are come to, and of which it is a Next, rising -/
def IsPreds (f : List Blk) (P : List (List Nat)) : Prop := P.length = f.length ∧ ∀ (x : Nat) r, P[x]? = some r → r.Pairwise (· < ·) ∧ ∀ k, k ∈ r ↔ Rch f k ∧ Leads f k x
theorem IsPreds.unique {f : List Blk} {P Q : List (List Nat)} (h : IsPreds f P) (k : IsPreds f Q) : P = Q := by
  apply List.ext_getElem?
  intro i
  by_cases hi : i < f.length
  · have hp : P[i]? = some (P[i]'(by rw [h.1]; exact hi)) := List.getElem?_eq_getElem _
    have hq : Q[i]? = some (Q[i]'(by rw [k.1]; exact hi)) := List.getElem?_eq_getElem _
    rw [hp, hq]
    congr 1
    exact rising_unique (h.2 i _ hp).1 (k.2 i _ hq).1 fun n => ((h.2 i _ hp).2 n).trans ((k.2 i _ hq).2 n).symm
  · rw [List.getElem?_eq_none (by rw [h.1]; omega), List.getElem?_eq_none (by rw [k.1]; omega)]
theorem PS.start (f : List Blk) (l : List Nat) : PS f l 0 0 [] (List.replicate f.length []) := by
  refine ⟨by simp, fun x r hr => ?_⟩
  rw [List.getElem?_replicate] at hr
  split at hr
  · cases hr
    refine ⟨List.Pairwise.nil, fun k => ⟨fun h => by simp at h, ?_⟩⟩
    rintro (⟨i', h, _⟩ | ⟨_, q, h, _⟩) <;> omega
  · cases hr
theorem PS.begin {f : List Blk} {l : List Nat} {i : Nat} {ns ms : List Int} {P : List (List Nat)} (h : PS f l i 0 ns P) : PS f l i 0 ms P := by
  refine ⟨h.1, fun x r hr => ⟨(h.2 x r hr).1, fun k => ((h.2 x r hr).2 k).trans ?_⟩⟩
  constructor
  · rintro (h | ⟨_, q, hq, _⟩)
    · exact .inl h
    · omega
  · rintro (h | ⟨_, q, hq, _⟩)
    · exact .inl h
    · omega
theorem PS.put {f : List Blk} {l : List Nat} {i j : Nat} {ns : List Int} {P : List (List Nat)} (h : PS f l i j ns P) {k0 x : Nat} (hk : l[i]? = some k0) (hx : ns[j]? = some (x : Int)) {r r' : List Nat} (hr : P[x]? = some r) (h1 : r'.Pairwise (· < ·)) (h2 : ∀ k, k ∈ r' ↔ k = k0 ∨ k ∈ r) : PS f l i (j + 1) ns (P.set x r') := by
  have hxl := (List.getElem?_eq_some_iff.1 hr).1
  refine ⟨by simp [h.1], fun y s hs => ?_⟩
  by_cases e : y = x
  · subst e
    rw [List.getElem?_set_self hxl] at hs
    cases hs
    refine ⟨h1, fun k => ?_⟩
    rw [h2 k, (h.2 y r hr).2 k]
    constructor
    · rintro (rfl | h3 | ⟨h3, q, hq, hn⟩)
      · exact .inr ⟨hk, j, by omega, hx⟩
      · exact .inl h3
      · exact .inr ⟨h3, q, by omega, hn⟩
    · rintro (h3 | ⟨h3, q, hq, hn⟩)
      · exact .inr (.inl h3)
      · rw [hk] at h3
        exact .inl (Option.some.inj h3).symm
  · rw [List.getElem?_set_ne (fun h => e h.symm)] at hs
    refine ⟨(h.2 y s hs).1, fun k => ((h.2 y s hs).2 k).trans ?_⟩
    constructor
    · rintro (h3 | ⟨h3, q, hq, hn⟩)
      · exact .inl h3
      · exact .inr ⟨h3, q, by omega, hn⟩
    · rintro (h3 | ⟨h3, q, hq, hn⟩)
      · exact .inl h3
      · by_cases eq : q = j
        · subst eq
          rw [hx] at hn
          have := Option.some.inj hn
          omega
        · exact .inr ⟨h3, q, by omega, hn⟩
theorem PS.same {f : List Blk} {l : List Nat} {i j : Nat} {ns : List Int} {P : List (List Nat)} (h : PS f l i j ns P) {k0 x : Nat} (hk : l[i]? = some k0) (hx : ns[j]? = some (x : Int)) {r : List Nat} (hr : P[x]? = some r) (hm : k0 ∈ r) : PS f l i (j + 1) ns P := by
  have h1 := h.put hk hx hr (h.2 x r hr).1 (fun k => ⟨fun h => .inr h, fun h => by rcases h with rfl | h; exact hm; exact h⟩)
  have e : P.set x r = P := by
    apply List.ext_getElem?
    intro i
    by_cases e : i = x
    · subst e; rw [List.getElem?_set_self (List.getElem?_eq_some_iff.1 hr).1, hr]
    · rw [List.getElem?_set_ne (fun h => e h.symm)]
  rw [e] at h1
  exact h1
theorem PS.next {f : List Blk} {l : List Nat} {i : Nat} {P : List (List Nat)} {k0 : Nat} {b : Blk} (h : PS f l i b.next.length b.next P) (hk : l[i]? = some k0) (hb : f[k0]? = some b) : PS f l (i + 1) 0 [] P := by
  refine ⟨h.1, fun x r hr => ⟨(h.2 x r hr).1, fun k => ((h.2 x r hr).2 k).trans ?_⟩⟩
  constructor
  · rintro (⟨i', h1, h2, h3⟩ | ⟨h1, q, hq, hn⟩)
    · exact .inl ⟨i', by omega, h2, h3⟩
    · refine .inl ⟨i, by omega, h1, ?_⟩
      rw [hk] at h1
      cases h1
      exact ⟨b, hb, List.mem_of_getElem? hn⟩
  · rintro (⟨i', h1, h2, h3⟩ | ⟨_, q, hq, _⟩)
    · by_cases e : i' = i
      · subst e
        rw [hk] at h2
        cases h2
        obtain ⟨b', hb', hm⟩ := h3
        rw [hb] at hb'
        cases hb'
        obtain ⟨q, hq, he⟩ := List.mem_iff_getElem.1 hm
        exact .inr ⟨hk, q, hq, by rw [← he]; exact List.getElem?_eq_getElem hq⟩
      · exact .inl ⟨i', by omega, h2, h3⟩
    · omega
theorem PS.done {f : List Blk} {l : List Nat} {P : List (List Nat)} (h : PS f l l.length 0 [] P) (hl : IsRch f l) : IsPreds f P := by
  refine ⟨h.1, fun x r hr => ⟨(h.2 x r hr).1, fun k => ((h.2 x r hr).2 k).trans ?_⟩⟩
  constructor
  · rintro (⟨i', h1, h2, h3⟩ | ⟨_, q, hq, _⟩)
    · exact ⟨(hl.2 k).1 (List.mem_of_getElem? h2), h3⟩
    · omega
  · rintro ⟨h1, h2⟩
    obtain ⟨i, hi, he⟩ := List.mem_iff_getElem.1 ((hl.2 k).2 h1)
    exact .inl ⟨i, hi, by rw [← he]; exact List.getElem?_eq_getElem hi, h2⟩
/-- those told so far are less than the one that is gone through now, or it -/
theorem PS.less {f : List Blk} {l : List Nat} {i j : Nat} {ns : List Int} {P : List (List Nat)} (h : PS f l i j ns P) (hl : l.Pairwise (· < ·)) {k0 x : Nat} (hk : l[i]? = some k0) {r : List Nat} (hr : P[x]? = some r) {k : Nat} (hm : k ∈ r) (hne : ¬ k = k0) : k < k0 := by
  rcases ((h.2 x r hr).2 k).1 hm with ⟨i', h1, h2, _⟩ | ⟨h1, _⟩
  · obtain ⟨hi, rfl⟩ := List.getElem?_eq_some_iff.1 hk
    obtain ⟨hi', rfl⟩ := List.getElem?_eq_some_iff.1 h2
    exact List.pairwise_iff_getElem.1 hl i' i hi' hi h1
  · rw [hk] at h1
    exact absurd (Option.some.inj h1).symm hne
theorem PS.push {f : List Blk} {l : List Nat} {i j : Nat} {ns : List Int} {P : List (List Nat)} (h : PS f l i j ns P) (hl : l.Pairwise (· < ·)) {k0 x : Nat} (hk : l[i]? = some k0) (hx : ns[j]? = some (x : Int)) {r : List Nat} (hr : P[x]? = some r) (hm : ¬ k0 ∈ r) : PS f l i (j + 1) ns (P.set x (r ++ [k0])) := by
  refine h.put hk hx hr ?_ (fun k => by simp [or_comm])
  refine List.pairwise_append.2 ⟨(h.2 x r hr).1, List.pairwise_singleton _ _, fun a ha b hb => ?_⟩
  simp at hb
  subst hb
  exact h.less hl hk hr ha (fun e => hm (e ▸ ha))
theorem PS.bound {f : List Blk} {l : List Nat} {i j : Nat} {ns : List Int} {P : List (List Nat)} (h : PS f l i j ns P) (hg : goodFlow f = true) (hl : IsRch f l) {x : Nat} {r : List Nat} (hr : P[x]? = some r) : r.length ≤ 64 := by
  have h64 := flow_pos hg
  have := nodup_le (n := f.length) (List.Pairwise.imp (fun h => Nat.ne_of_lt h) (h.2 x r hr).1) (fun k hk => by
    rcases ((h.2 x r hr).2 k).1 hk with ⟨i', _, h2, _⟩ | ⟨h1, _⟩
    · exact ((hl.2 k).1 (List.mem_of_getElem? h2)).lt hg
    · exact ((hl.2 k).1 (List.mem_of_getElem? h1)).lt hg)
  omega
end Go.Proofs.YtbibcjhfiopgdaaDoor
