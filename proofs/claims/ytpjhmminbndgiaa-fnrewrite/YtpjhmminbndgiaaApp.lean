/- Appending to a row that is owned, beside rows that lie apart: one law for every kind of element, nothing appended too. -/
import Derived.Test.YtpjhmminbndgiaaKit
import Derived.Deep.AppendLies
import Derived.Deep.Upon
namespace Go.Proofs.Ytpjhmminbndgiaa
open Go.RowKit
set_option linter.unusedVariables false
set_option linter.unusedSimpArgs false
set_option maxRecDepth 100000

/-- what is known of a slice's elements: the slice's type, theirs, their cells and bytes -/
def Elt (T e : TypeId) (size bytes : Nat) : Prop := ∃ (i : TypeInfo) (z : Value), Try.prog.underlying T = some (.slice e) ∧ Try.prog.info? e = some i ∧ i.zero = some z ∧ i.size = size ∧ i.bytes = bytes ∧ z.cells.size = size ∧ 0 < size ∧ bytes ≤ 1000
/-- what is appended lies in memory -/
def News (w : World) (a : Option Addr) (m size : Nat) (news : List Value) : Prop := news.length = m * size ∧ (∀ u ∈ news, u.oneCell' = true) ∧ (news = [] ∨ ∃ ad, a = some ad ∧ ∀ j u, news[j]? = some u → w.cell? (ad.add j) = some u)
theorem addr_add (b off j : Nat) : (⟨b, off, none⟩ : Addr).add j = ⟨b, off + j, none⟩ := by unfold Addr.add; split <;> simp_all
theorem News.one (w : World) (v : Value) (t : TypeId) (nb : Nat) (hnb : w.heap.size = nb) (h1 : v.oneCell' = true) : News (w.alloc (.cells #[v] t)) (some ⟨nb, 0, none⟩) 1 1 [v] := by
  subst hnb
  refine ⟨rfl, by simp [h1], .inr ⟨_, rfl, fun j u hj => ?_⟩⟩
  match j, hj with
  | 0, hj => simp at hj; subst hj; rw [addr_add]; simp [go_sem]
theorem mul_lt {j n k : Nat} (hk : 0 < k) (h : j < n * k) : j / k < n ∧ j % k < k ∧ j = j / k * k + j % k := by
  refine ⟨(Nat.div_lt_iff_lt_mul hk).2 h, Nat.mod_lt _ hk, ?_⟩
  have := Nat.div_add_mod j k
  rw [Nat.mul_comm]; omega
theorem run_append_more {T e : TypeId} {size bytes : Nat} (E : Elt T e size bytes) (w : World) (ty : TypeId) (B : Nat) (v : Value) (n : Nat) (xs : List Value) (hown : w.ownsRow B e size v n xs) (a : Option Addr) (m c : Nat) (news : List Value) (hn : News w a m size news) (hb : n + m ≤ 4000000) (hB : B ≤ w.heap.size) :
    ∃ va vc w', (Builtin.append_ #[T, T] ty #[v, .slice a m c]).run Try.prog w = .ok (.slice va (n + m) vc) w' ∧ w'.ownsRow B e size (.slice va (n + m) vc) (n + m) (xs ++ news) ∧ w.grownBy w' v.ownBlock ∧ (∀ g, (Value.slice va (n + m) vc).ownBlock = some g → v.ownBlock = some g ∨ w.heap.size ≤ g) := by
  obtain ⟨i, z, hu, hi, hz, hs, hby, hzs, hp, hb1⟩ := E
  obtain ⟨hl, h1, hne⟩ := hn
  by_cases hm : m = 0
  · subst hm
    have hnil : news = [] := List.eq_nil_of_length_eq_zero (by rw [hl, Nat.zero_mul])
    subst hnil
    obtain ⟨va, vc, rfl, hle⟩ : ∃ a c, v = .slice a n c ∧ n ≤ c := by
      rcases hown.2 with ⟨rfl, h0⟩ | ⟨g, cap, cur, rfl, _, _, h3, _⟩
      · rw [h0]; exact ⟨none, 0, rfl, Nat.le_refl _⟩
      · exact ⟨_, cap, rfl, h3⟩
    refine ⟨va, vc, w, ?_, by simpa using hown, World.grownBy.refl _ _, fun g hg => .inl hg⟩
    refine run_append_nothing w T T ty e i hu hi va n vc hle _ ?_
    rw [hs]
    cases a with
    | none => exact Src.ofNil _ hu c
    | some ad => exact Src.ofSlice _ hu ad 0 c [] (by simp) (by simp) (by simp)
  · have hnn : news ≠ [] := by
      intro e0; subst e0
      have h0 : m * size = 0 := by rw [← hl]; rfl
      rcases Nat.mul_eq_zero.1 h0 with h0 | h0 <;> omega
    obtain ⟨ad, rfl, hc⟩ := hne.resolve_left hnn
    have hmul : (n + m) * bytes ≤ 4000000 * 1000 := Nat.mul_le_mul hb hb1
    obtain ⟨g, cap, w', hr, h2, h3, h4, h5⟩ := run_append_lies (P := Try.prog) w T ty B e i z size bytes hu hi hz hs hby hzs hp v n xs hown ad m c news hl hc h1 (by omega) (by unfold maxLen; omega) (by omega) hB _ rfl
    refine ⟨_, cap, w', hr, h2, h3, fun k hk => ?_⟩
    simp only [Value.ownBlock, Option.some.injEq] at hk
    subst hk
    rcases h4 with h4 | h4
    · exact .inl h4
    · exact .inr (by omega)
theorem wp_append_sep {T e : TypeId} {size bytes : Nat} (E : Elt T e size bytes) {w : World} {o : Oper} {a : Act} {K : Act → World → Prop} {Q : Exit → Act → World → Prop} (s x : Operand)
    (ho : o.op = .call { callee := .builtin .append, args := #[s, x], argTypes := #[T, T] })
    (B : Nat) (l1 : List OR) {v : Value} {n : Nat} {xs : List Value} {l2 : List OR} (h : Sep w B (l1 ++ ⟨e, size, v, n, xs⟩ :: l2)) (hs : a.eval s = v) {ad : Option Addr} {m c : Nat} {news : List Value} (hn : News w ad m size news) (hx : a.eval x = .slice ad m c) (hb : n + m ≤ 4000000) (hB : B ≤ w.heap.size)
    (k : ∀ va vc w', Sep w' B (l1 ++ ⟨e, size, .slice va (n + m) vc, n + m, xs ++ news⟩ :: l2) → Below B w w' → w.grownBy w' v.ownBlock → K (a.put o.dst (.slice va (n + m) vc)) w') : o.wp Try.prog a w K Q := by
  have ho' := h.1 ⟨e, size, v, n, xs⟩ (by simp)
  obtain ⟨va, vc, w', hr, h2, h3, h4⟩ := run_append_more E w o.type B v n xs ho' ad m c news hn hb hB
  unfold Oper.wp execOp
  simp only [ho, resolve, invoke, builtin, Sem.run_bind, Sem.run_pure, Result.andThen_ok, List.map_toArray, List.map_cons, List.map_nil, hs, hx, hr]
  exact k va vc w' (h.turn l1 (Below.refl _ _) h3 ⟨e, size, .slice va (n + m) vc, n + m, xs ++ news⟩ h2 h4) ((Below.refl B w).grown h3 hB (fun j hj => (ho'.lt j hj).1)) h3
theorem wpList_append_sep {T e : TypeId} {size bytes : Nat} (E : Elt T e size bytes) {w : World} {ops : Array Oper} {rest : List Oper} {o : Oper} {a : Act} {Q : Exit → Act → World → Prop} (hgd : o.guard = none) (s x : Operand)
    (ho : o.op = .call { callee := .builtin .append, args := #[s, x], argTypes := #[T, T] })
    (B : Nat) (l1 : List OR) {v : Value} {n : Nat} {xs : List Value} {l2 : List OR} (h : Sep w B (l1 ++ ⟨e, size, v, n, xs⟩ :: l2)) (hs : a.eval s = v) {ad : Option Addr} {m c : Nat} {news : List Value} (hn : News w ad m size news) (hx : a.eval x = .slice ad m c) (hb : n + m ≤ 4000000) (hB : B ≤ w.heap.size)
    (k : ∀ va vc w', Sep w' B (l1 ++ ⟨e, size, .slice va (n + m) vc, n + m, xs ++ news⟩ :: l2) → Below B w w' → w.grownBy w' v.ownBlock → wpList Try.prog ops Q rest (a.put o.dst (.slice va (n + m) vc)) w') : wpList Try.prog ops Q (o :: rest) a w :=
  wpList_plain hgd fun _ hK => wp_append_sep E s x ho B l1 h hs hn hx hb hB fun va vc w' h1 h2 h3 => hK _ _ (k va vc w' h1 h2 h3)
/-- one row alone, owned -/
theorem sep_one {w : World} {B : Nat} {e : TypeId} {size n : Nat} {v : Value} {xs : List Value} (h : w.ownsRow B e size v n xs) : Sep w B ([] ++ ⟨e, size, v, n, xs⟩ :: []) := ⟨fun x hx => by simp at hx; subst hx; exact h, by simp⟩
theorem one_sep {w : World} {B : Nat} {e : TypeId} {size n : Nat} {v : Value} {xs : List Value} {l2 : List OR} (h : Sep w B ([] ++ ⟨e, size, v, n, xs⟩ :: l2)) : w.ownsRow B e size v n xs := h.1 ⟨e, size, v, n, xs⟩ (by simp)
end Go.Proofs.Ytpjhmminbndgiaa
