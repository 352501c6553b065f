/- A number is dropped from a set. -/
import Derived.Test.YtiaiaejijicddaaK2
namespace Go.Proofs.Ytiaiaejijicddaa
open Go Go.RowKit Go.Shelf
set_option linter.unusedVariables false
set_option linter.unusedSimpArgs false
set_option maxRecDepth 100000

def Try.laysNm223_ren : Go.Shelf.Ren := ⟨fun | 23 => 81 | n => n, fun | 22 => 34 | 3 => 3 | 4 => 4 | 0 => 0 | n => n, fun | n => n⟩
theorem Try.laysNm223 : Go.Proofs.Lays2.n23 Try.prog Try.laysNm223_ren := {
  mixed := by kernel_rfl
  f23 := Try.func81.trans (congrArg some (by kernel_rfl))
  t0 := Try.underlying0
  a0 := Try.isAgg0
  z0 := Try.sizeOf0
  v0 := Try.zeroValue0
  t3 := Try.underlying3
  a3 := Try.isAgg3
  z3 := Try.sizeOf3
  v3 := Try.zeroValue3
  t4 := Try.underlying4
  a4 := Try.isAgg4
  z4 := Try.sizeOf4
  v4 := Try.zeroValue4
  t22 := Try.underlying34
  a22 := Try.isAgg34
  z22 := Try.sizeOf34
  v22 := Try.zeroValue34
  i3 := by kernel_rfl }
theorem Try.slices_Delete_int_cells (b off n c i j : Nat) (zs : List Int) (w : World) (hz : n ≤ zs.length) (hcap : n ≤ c) (hm : c ≤ 9223372036854775807) (hij : i ≤ j) (hj : j ≤ n) (hc : ∀ j, j < zs.length → w.cell? ⟨b, off + j, none⟩ = some (.int .i64 (zs.getD j 0))) (hf : ∀ j, j < n → w.frozen? ⟨b, off + j, none⟩ = false) :
    Calls Try.prog 81 #[.slice (some ⟨b, off, none⟩) n c, .int .i64 i, .int .i64 j] w fun e w' => e = .returned (.slice (some ⟨b, off, none⟩) (n - (j - i)) c) ∧ ∃ q, w' = (w.drewN q).setCells b off (((zs.take n).take i ++ (zs.take n).drop j ++ List.replicate (j - i) 0).map (Value.int .i64)) := Any.slices_Delete_int_cells Try.laysNm223 b off n c i j zs w hz hcap hm hij hj hc hf
/-- one number goes from a row -/
theorem delete_any (B : Nat) (v : Value) (zs : List Int) (p : Nat) (w : World) (hp : p < zs.length) (hl : zs.length ≤ 1000) (h : w.ownsRow B 3 1 v zs.length (ints zs)) :
    Calls Try.prog 81 #[v, .int .i64 p, .int .i64 (p + 1 : Nat)] w fun e w' => ∃ va vc, e = .returned (.slice va (zs.length - 1) vc) ∧ w'.ownsRow B 3 1 (.slice va (zs.length - 1) vc) (zs.length - 1) (ints (zs.take p ++ zs.drop (p + 1))) ∧ w.grownBy w' v.ownBlock ∧ (Value.slice va (zs.length - 1) vc).ownBlock = v.ownBlock := by
  rcases h.2 with ⟨rfl, h0⟩ | ⟨g, cap, cur, rfl, hBg, hg, hn, hm, hsz, htk⟩
  · omega
  · refine (Try.slices_Delete_int_cells g 0 zs.length cap p (p + 1) zs w (Nat.le_refl _) hn (by unfold maxLen at hm; omega) (by omega) (by omega) (fun j hj => ?_) (fun j hj => by rw [Nat.zero_add]; exact h.frozenAt j)).mono ?_
    · rw [Nat.zero_add]
      exact rowT_at h rfl (by simp [ints, hj, List.getD])
    · rintro e w' ⟨rfl, q, rfl⟩
      rw [List.take_of_length_le (Nat.le_refl _), show p + 1 - p = 1 by omega]
      have e0 : ((zs.take p ++ zs.drop (p + 1) ++ List.replicate 1 0).map (Value.int .i64)) = ints (zs.take p ++ zs.drop (p + 1)) ++ [.int .i64 0] := by simp [ints]
      rw [e0]
      obtain ⟨L, hL⟩ : ∃ L, L = ints (zs.take p ++ zs.drop (p + 1)) := ⟨_, rfl⟩
      have hLl : L.length = zs.length - 1 := by rw [hL]; simp [ints]; omega
      rw [← hL]
      obtain ⟨h1, h2⟩ := own_setCells (L ++ [.int .i64 0]) (w.drewN q) 0 (ints zs) h (by simp; omega)
      have hz : (ints zs).length = zs.length := by simp [ints]
      have e1 : (ints zs).drop (0 + (L ++ [Value.int .i64 0]).length) = [] := List.drop_of_length_le (by rw [hz]; simp; omega)
      rw [e1, List.take_zero, List.nil_append, List.append_nil] at h1
      refine ⟨_, _, rfl, ?_, (show w.grownBy (w.drewN q) (some g) from grownBy_of_below (below_drewN (Below.refl _ _) q) _).trans h2, rfl⟩
      have h3 := own_cut h1 (m := zs.length - 1) (by omega)
      have e3 : (L ++ [Value.int .i64 0]).take (zs.length - 1) = L := by
        rw [List.take_append_of_le_length (by omega), List.take_of_length_le (by omega)]
      first
        | (rw [e3] at h3; exact h3)
        | (rw [Nat.mul_one, e3] at h3; exact h3)
def dropN (s : List Nat) (k : Nat) : List Nat := s.filter fun x => decide (x ≠ k)
theorem dropN_none {s : List Nat} {k : Nat} (h : k ∉ s) : dropN s k = s := List.filter_eq_self.2 fun x hx => decide_eq_true fun e => h (e ▸ hx)
theorem dropN_one {s : List Nat} (h : s.Pairwise (· < ·)) {k : Nat} (hk : k ∈ s) : (dropN s k).length = s.length - 1 ∧ posL s k < s.length ∧ nats (dropN s k) = (nats s).take (posL s k) ++ (nats s).drop (posL s k + 1) := by
  induction s with
  | nil => simp at hk
  | cons y r ih =>
    have hy := List.pairwise_cons.1 h
    by_cases hyk : y = k
    · subst hyk
      have hn : y ∉ r := fun hm => Nat.lt_irrefl _ (hy.1 y hm)
      have e0 : posL (y :: r) y = 0 := by
        unfold posL
        rw [List.countP_eq_zero]
        intro x hx
        rcases List.mem_cons.1 hx with rfl | hx
        · simp
        · have := hy.1 x hx; simp; omega
      have e1 : dropN (y :: r) y = r := by
        show List.filter _ (y :: r) = r
        rw [List.filter_cons]
        simp
        intro x hx e
        exact hn (e ▸ hx)
      rw [e0, e1]
      exact ⟨by simp, by simp, by simp [nats]⟩
    · have hk' : k ∈ r := by
        rcases List.mem_cons.1 hk with e | e
        · exact absurd e.symm hyk
        · exact e
      obtain ⟨h1, h2, h3⟩ := ih hy.2 hk'
      have hlt : y < k := hy.1 k hk'
      have e0 : posL (y :: r) k = posL r k + 1 := by simp [posL, hlt]
      have e1 : dropN (y :: r) k = y :: dropN r k := by
        show List.filter _ (y :: r) = _
        rw [List.filter_cons, if_pos (by simpa using hyk)]
        rfl
      have hrl : 0 < r.length := by omega
      rw [e0, e1]
      refine ⟨by simp [h1]; omega, by simp; omega, ?_⟩
      simp only [nats, List.map_cons, List.take_succ_cons, List.drop_succ_cons, List.cons_append]
      congr 1
set_option maxHeartbeats 1000000 in
/-- a number is dropped from a set that lies in a cell -/
theorem drop_any (E size pb n c j : Nat) (xs : List Value) (sv : Value) (s : List Nat) (k : Nat) (l2 : List OR) (B : Nat) (w : World) (h : Sep w B (⟨E, size, .slice (some ⟨pb, 0, none⟩) n c, n, xs⟩ :: ⟨3, 1, sv, s.length, ints (nats s)⟩ :: l2)) (hj : xs[j]? = some sv) (hs : s.Pairwise (· < ·)) (hl : s.length ≤ 1000) :
    Calls Try.prog 69 #[.pointer (some ⟨pb, j, none⟩), .int .i64 k] w fun e w' => e = .returned (.tuple #[]) ∧ ∃ sv', Sep w' B (⟨E, size, .slice (some ⟨pb, 0, none⟩) n c, n, xs.set j sv'⟩ :: ⟨3, 1, sv', (dropN s k).length, ints (nats (dropN s k))⟩ :: l2) ∧ Only (fun b => b = pb ∨ sv.ownBlock = some b) w w' ∧ sv'.ownBlock = sv.ownBlock := by
  have ho : w.ownsRow B 3 1 sv s.length (ints (nats s)) := h.1 ⟨3, 1, sv, s.length, ints (nats s)⟩ (by simp)
  have hh : w.ownsRow B E size (.slice (some ⟨pb, 0, none⟩) n c) n xs := h.1 ⟨E, size, .slice (some ⟨pb, 0, none⟩) n c, n, xs⟩ (by simp)
  obtain ⟨sa, sc, rfl⟩ := slice_of_owned ho
  have c0 : w.cell? ⟨pb, j, none⟩ = some (.slice sa s.length sc) := rowT_at hh rfl hj
  have hr : Row w sa (nats s) := own_row (c := sc) (B := B) (by rw [nats_length]; exact ho)
  have HS := hid (search_any sa sc s k w hl hr hs)
  by_cases hk : k ∈ s
  · have hk2 : decide (k ∈ s) = true := decide_eq_true hk
    rw [hk2] at HS
    obtain ⟨g1, g2, g3⟩ := dropN_one hs hk
    have HD : Hid (∀ q, Calls Try.prog 81 #[.slice sa s.length sc, .int .i64 (posL s k : Nat), .int .i64 ((posL s k : Int) + 1)] (w.drewN q) fun e w' => ∃ va vc, e = .returned (.slice va (s.length - 1) vc) ∧ w'.ownsRow B 3 1 (.slice va (s.length - 1) vc) (s.length - 1) (ints (nats (dropN s k))) ∧ (w.drewN q).grownBy w' (Value.slice sa s.length sc).ownBlock ∧ (Value.slice va (s.length - 1) vc).ownBlock = (Value.slice sa s.length sc).ownBlock) := fun q => by
      have := delete_any B (.slice sa s.length sc) (nats s) (posL s k) (w.drewN q) (by rw [nats_length]; exact g2) (by rw [nats_length]; exact hl) (by rw [nats_length]; exact ho)
      rw [nats_length, ← g3] at this
      rw [show ((posL s k : Int) + 1) = ((posL s k + 1 : Nat) : Int) by omega]
      exact this
    have HH := hid h
    have HJ := hid hj
    have HG := hid g1
    have hp : posL s k < 1000 := by omega
    clear h ho hh hr hj hk hk2 g1 g2 g3
    go_enter Try.func69, Try.ntmps69
    go_wp2_with fail
    refine HS.out.mono ?_
    rintro e w1 ⟨rfl, q, rfl⟩
    go_wp2_with fail
    refine (HD.out q).mono ?_
    rintro e w2 ⟨va, vc, rfl, ho2, hg2, hn2⟩
    have b1 : Below w.heap.size w (w.drewN q) := below_drewN (Below.refl _ w) q
    have hs2 := Sep.turn [⟨E, size, .slice (some ⟨pb, 0, none⟩) n c, n, xs⟩] HH.out b1 hg2 ⟨3, 1, .slice va (s.length - 1) vc, s.length - 1, ints (nats (dropN s k))⟩ ho2 (fun g hg => .inl (hn2 ▸ hg))
    have hh2 := hs2.1 ⟨E, size, .slice (some ⟨pb, 0, none⟩) n c, n, xs⟩ (by simp)
    have c2 : w2.cell? ⟨pb, j, none⟩ = some (.slice sa s.length sc) := rowT_at hh2 rfl HJ.out
    have f2 : w2.frozen? ⟨pb, j, none⟩ = false := rowT_frz hh2 rfl j
    have HS2 := hid hs2
    have HO2 : Hid (Only (fun b => b = pb ∨ (Value.slice sa s.length sc).ownBlock = some b) w w2) := (Only.of_below b1).trans (Only.of_grown (P := fun b => b = pb ∨ (Value.slice sa s.length sc).ownBlock = some b) hg2 (fun g hg => .inr hg)) (fun _ _ h => h)
    have HN2 := hid hn2
    clear hs2 hh2 ho2 hg2 hn2 b1
    go_wp2
    go_end0
    refine ⟨rfl, .slice va (s.length - 1) vc, ?_, HO2.out.trans (Only.setCell _ _ _ _) (fun i _ h => .inl h), HN2.out⟩
    rw [HG.out]
    exact Sep.store [] HS2.out j _
  · have HP := hid (And.intro (dropN_none hk) h)
    have HJ : Hid (xs.set j (.slice sa s.length sc) = xs) := by
      apply List.ext_getElem?
      intro i
      by_cases e : i = j
      · subst e; rw [List.getElem?_set_self (List.getElem?_eq_some_iff.1 hj).1, hj]
      · rw [List.getElem?_set_ne (fun h => e h.symm)]
    have hk2 : decide (k ∈ s) = false := decide_eq_false hk
    rw [hk2] at HS
    clear h ho hh hr hj hk hk2
    go_enter Try.func69, Try.ntmps69
    go_wp2_with fail
    refine HS.out.mono ?_
    rintro e w1 ⟨rfl, q, rfl⟩
    go_wp2
    go_end0
    refine ⟨rfl, .slice sa s.length sc, ?_, .of_below (below_drewN (Below.refl _ _) q), rfl⟩
    rw [HJ.out, HP.out.1]
    exact HP.out.2
end Go.Proofs.Ytiaiaejijicddaa
