/- A number is dropped from a set. -/
import Derived.Test.YthcenlplfcbfjaaCopy7
import Derived.Test.YthcenlplfcbfjaaLeaders7
namespace Go.Proofs.Ythcenlplfcbfjaa
open Go Go.RowKit Go.Shelf
set_option linter.unusedVariables false
set_option linter.unusedSimpArgs false
set_option maxRecDepth 100000

def dropN (s : List Nat) (k : Nat) : List Nat := s.filter fun x => decide (x ≠ k)
theorem dropN_rising {s : List Nat} (h : s.Pairwise (· < ·)) (k : Nat) : (dropN s k).Pairwise (· < ·) := h.filter _
theorem mem_dropN {s : List Nat} {k x : Nat} : x ∈ dropN s k ↔ x ∈ s ∧ x ≠ k := by simp [dropN]
theorem dropN_none {s : List Nat} {k : Nat} (h : k ∉ s) : dropN s k = s := List.filter_eq_self.2 fun x hx => decide_eq_true fun e => h (e ▸ hx)
theorem dropN_len (s : List Nat) (k : Nat) : (dropN s k).length ≤ s.length := List.length_filter_le _ _
theorem dropN_one {s : List Nat} (h : s.Pairwise (· < ·)) {k : Nat} (hk : k ∈ s) : (dropN s k).length = s.length - 1 ∧ posL s k < s.length ∧ nats (dropN s k) = (nats s).take (posL s k) ++ (nats s).drop (posL s k + 1) := by
  induction s with
  | nil => simp at hk
  | cons y r ih =>
    have hy := List.pairwise_cons.1 h
    by_cases hyk : y = k
    · subst hyk
      have hn : y ∉ r := fun hm => Nat.lt_irrefl _ (hy.1 y hm)
      have e0 : posL (y :: r) y = 0 := by
        unfold posL
        rw [List.countP_eq_zero]
        intro x hx
        rcases List.mem_cons.1 hx with rfl | hx
        · simp
        · have := hy.1 x hx; simp; omega
      have e1 : dropN (y :: r) y = r := by
        show List.filter _ (y :: r) = r
        rw [List.filter_cons]
        simp
        intro x hx e
        exact hn (e ▸ hx)
      rw [e0, e1]
      exact ⟨by simp, by simp, by simp [nats]⟩
    · have hk' : k ∈ r := by
        rcases List.mem_cons.1 hk with e | e
        · exact absurd e.symm hyk
        · exact e
      obtain ⟨h1, h2, h3⟩ := ih hy.2 hk'
      have hlt : y < k := hy.1 k hk'
      have e0 : posL (y :: r) k = posL r k + 1 := by simp [posL, hlt]
      have e1 : dropN (y :: r) k = y :: dropN r k := by
        show List.filter _ (y :: r) = _
        rw [List.filter_cons, if_pos (by simpa using hyk)]
        rfl
      have hrl : 0 < r.length := by omega
      rw [e0, e1]
      refine ⟨by simp [h1]; omega, by simp; omega, ?_⟩
      simp only [nats, List.map_cons, List.take_succ_cons, List.drop_succ_cons, List.cons_append]
      congr 1
set_option maxHeartbeats 1000000 in
/-- a number is dropped from a set that lies in a cell -/
theorem drop_any (E size pb n c j : Nat) (xs : List Value) (sv : Value) (s : List Nat) (k : Nat) (l2 : List OR) (B : Nat) (w : World) (h : Sep w B (⟨E, size, .slice (some ⟨pb, 0, none⟩) n c, n, xs⟩ :: ⟨3, 1, sv, s.length, ints (nats s)⟩ :: l2)) (hj : xs[j]? = some sv) (hs : s.Pairwise (· < ·)) (hl : s.length ≤ 1000) :
    Calls Try.prog 100 #[.pointer (some ⟨pb, j, none⟩), .int .i64 k] w fun e w' => e = .returned (.tuple #[]) ∧ ∃ sv', Sep w' B (⟨E, size, .slice (some ⟨pb, 0, none⟩) n c, n, xs.set j sv'⟩ :: ⟨3, 1, sv', (dropN s k).length, ints (nats (dropN s k))⟩ :: l2) ∧ Only (fun b => b = pb ∨ sv.ownBlock = some b) w w' ∧ sv'.ownBlock = sv.ownBlock := by
  have ho : w.ownsRow B 3 1 sv s.length (ints (nats s)) := h.1 ⟨3, 1, sv, s.length, ints (nats s)⟩ (by simp)
  have hh : w.ownsRow B E size (.slice (some ⟨pb, 0, none⟩) n c) n xs := h.1 ⟨E, size, .slice (some ⟨pb, 0, none⟩) n c, n, xs⟩ (by simp)
  obtain ⟨sa, sc, rfl⟩ := slice_of_owned ho
  have c0 : w.cell? ⟨pb, j, none⟩ = some (.slice sa s.length sc) := rowT_at hh rfl hj
  have hr : Row w sa (nats s) := own_row (c := sc) (B := B) (by rw [nats_length]; exact ho)
  have HS := hid (search_any sa sc s k w hl hr hs)
  by_cases hk : k ∈ s
  · have hk2 : decide (k ∈ s) = true := decide_eq_true hk
    rw [hk2] at HS
    obtain ⟨g1, g2, g3⟩ := dropN_one hs hk
    have HD : Hid (∀ q, Calls Try.prog 78 #[.slice sa s.length sc, .int .i64 (posL s k : Nat), .int .i64 ((posL s k : Int) + 1)] (w.drewN q) fun e w' => ∃ va vc, e = .returned (.slice va (s.length - 1) vc) ∧ w'.ownsRow B 3 1 (.slice va (s.length - 1) vc) (s.length - 1) (ints (nats (dropN s k))) ∧ (w.drewN q).grownBy w' (Value.slice sa s.length sc).ownBlock ∧ (Value.slice va (s.length - 1) vc).ownBlock = (Value.slice sa s.length sc).ownBlock) := fun q => by
      have := delete_any B (.slice sa s.length sc) (nats s) (posL s k) (w.drewN q) (by rw [nats_length]; exact g2) (by rw [nats_length]; exact hl) (by rw [nats_length]; exact ho)
      rw [nats_length, ← g3] at this
      rw [show ((posL s k : Int) + 1) = ((posL s k + 1 : Nat) : Int) by omega]
      exact this
    have HH := hid h
    have HJ := hid hj
    have HG := hid g1
    have hp : posL s k < 1000 := by omega
    clear h ho hh hr hj hk hk2 g1 g2 g3
    go_enter Try.func100, Try.ntmps100
    go_wp2_with fail
    refine HS.out.mono ?_
    rintro e w1 ⟨rfl, q, rfl⟩
    go_wp2_with fail
    refine (HD.out q).mono ?_
    rintro e w2 ⟨va, vc, rfl, ho2, hg2, hn2⟩
    have b1 : Below w.heap.size w (w.drewN q) := below_drewN (Below.refl _ w) q
    have hs2 := Sep.turn [⟨E, size, .slice (some ⟨pb, 0, none⟩) n c, n, xs⟩] HH.out b1 hg2 ⟨3, 1, .slice va (s.length - 1) vc, s.length - 1, ints (nats (dropN s k))⟩ ho2 (fun g hg => .inl (hn2 ▸ hg))
    have hh2 := hs2.1 ⟨E, size, .slice (some ⟨pb, 0, none⟩) n c, n, xs⟩ (by simp)
    have c2 : w2.cell? ⟨pb, j, none⟩ = some (.slice sa s.length sc) := rowT_at hh2 rfl HJ.out
    have f2 : w2.frozen? ⟨pb, j, none⟩ = false := rowT_frz hh2 rfl j
    have HS2 := hid hs2
    have HO2 : Hid (Only (fun b => b = pb ∨ (Value.slice sa s.length sc).ownBlock = some b) w w2) := (Only.of_below b1).trans (Only.of_grown (P := fun b => b = pb ∨ (Value.slice sa s.length sc).ownBlock = some b) hg2 (fun g hg => .inr hg)) (fun _ _ h => h)
    have HN2 := hid hn2
    clear hs2 hh2 ho2 hg2 hn2 b1
    go_wp2
    go_end0
    refine ⟨rfl, .slice va (s.length - 1) vc, ?_, HO2.out.trans (Only.setCell _ _ _ _) (fun i _ h => .inl h), HN2.out⟩
    rw [HG.out]
    exact Sep.store [] HS2.out j _
  · have HP := hid (And.intro (dropN_none hk) h)
    have HJ : Hid (xs.set j (.slice sa s.length sc) = xs) := by
      apply List.ext_getElem?
      intro i
      by_cases e : i = j
      · subst e; rw [List.getElem?_set_self (List.getElem?_eq_some_iff.1 hj).1, hj]
      · rw [List.getElem?_set_ne (fun h => e h.symm)]
    have hk2 : decide (k ∈ s) = false := decide_eq_false hk
    rw [hk2] at HS
    clear h ho hh hr hj hk hk2
    go_enter Try.func100, Try.ntmps100
    go_wp2_with fail
    refine HS.out.mono ?_
    rintro e w1 ⟨rfl, q, rfl⟩
    go_wp2
    go_end0
    refine ⟨rfl, .slice sa s.length sc, ?_, .of_below (below_drewN (Below.refl _ _) q), rfl⟩
    rw [HJ.out, HP.out.1]
    exact HP.out.2
end Go.Proofs.Ythcenlplfcbfjaa
