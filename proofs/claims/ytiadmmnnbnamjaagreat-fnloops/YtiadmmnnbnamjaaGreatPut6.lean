/- The model's way of looking for a number in a list, and of putting one to its place. -/
import Derived.Test.YtiadmmnnbnamjaaGreatApp
namespace Go.Proofs.YtiadmmnnbnamjaaGreat
open Go.RowKit
set_option linter.unusedVariables false
set_option linter.unusedSimpArgs false
set_option maxRecDepth 100000

def hasB (xs : List Int) (n : Int) : Bool := decide (n ∈ xs)
theorem hasB_yes {xs : List Int} {k : Nat} {n : Int} (h : xs[k]? = some n) : hasB xs n = true := by simp [hasB, List.mem_of_getElem? h]
theorem hasB_no {xs : List Int} {n : Int} (h : ∀ (j : Nat) v, xs[j]? = some v → ¬ v = n) : hasB xs n = false := by
  simp only [hasB, decide_eq_false_iff_not]
  intro hm
  obtain ⟨i, hi, he⟩ := List.mem_iff_getElem.1 hm
  exact h i xs[i] (List.getElem?_eq_getElem hi) he
theorem l1Has_any (a : Option Addr) (c : Nat) (xs : List Int) (n : Int) (w : World) (hl : xs.length ≤ 9223372036854775807) (h : Row w a xs) :
    Calls Tryz.prog 46 #[.slice a xs.length c, .int .i64 n] w fun e w' => e = .returned (.bool (hasB xs n)) ∧ w' = w := by
  obtain ⟨G, hG⟩ : ∃ G, hasB xs n = G := ⟨_, rfl⟩
  rw [hG]
  have HG := hid hG
  have H := hid h
  clear h hG
  go_enter Tryz.func46, Tryz.ntmps46
  go_wp2
  go_loop [9] (fun t9 => ∃ (k : Nat), t9 = .int .i64 k ∧ k ≤ xs.length ∧ (∀ (j : Nat) v, j < k → xs[j]? = some v → ¬ v = n)) (fun t9 => xs.length - (intOf t9).toNat)
  case atStart => exact ⟨0, rfl, by omega, by intro j v hj; omega⟩
  case round =>
    obtain ⟨k, rfl, hk, hf⟩ := hrel
    have HF := hid hf
    clear hf
    by_cases hlt : k < xs.length
    · have hx : xs ≠ [] := by intro e; subst e; simp at hlt
      obtain ⟨b, off, rfl, hbw, hat⟩ := H.out.at hx
      obtain ⟨v, c1, HX⟩ := hat w (Below.refl _ _) k hlt
      clear hat hx
      by_cases hv : v = n
      · subst hv
        have HI := hid (HG.out.symm.trans (hasB_yes HX.out))
        go_wp2
        go_ret
        exact ⟨ret_bool HI.out.symm, rfl⟩
      · go_wp2
        go_round
        case rel =>
          refine ⟨k + 1, by go_num, by omega, fun j u hj hu => ?_⟩
          by_cases e : j = k
          · subst e; rw [HX.out] at hu; cases hu; exact hv
          · exact HF.out j u (by omega) hu
        case measure => simp [intOf]; omega
    · obtain rfl : k = xs.length := by omega
      have HI := hid (HG.out.symm.trans (hasB_no (fun j v hv => HF.out j v (List.getElem?_eq_some_iff.1 hv).1 hv)))
      go_wp2
      go_ret
      exact ⟨ret_bool HI.out.symm, rfl⟩

theorem row_take {w : World} {g c n : Nat} {B : Nat} {xs : List Int} (h : w.ownsRow B 3 1 (.slice (some ⟨g, 0, none⟩) n c) n (ints xs)) (k : Nat) (hk : k ≤ n) (hn : xs.length = n) : Row w (some ⟨g, 0, none⟩) (xs.take k) := by
  refine .inr ⟨g, 0, rfl, fun i hi => ?_⟩
  rw [List.length_take] at hi
  have hi1 : i < k := by omega
  have hi2 : i < xs.length := by omega
  have := rowT_at h rfl (show (ints xs)[i]? = some (.int .i64 xs[i]) by simp [ints, hi2])
  rw [Nat.zero_add, this]
  simp [List.getElem?_take, hi1, hi2]
theorem row_drop {w : World} {g c n : Nat} {B : Nat} {xs : List Int} (h : w.ownsRow B 3 1 (.slice (some ⟨g, 0, none⟩) n c) n (ints xs)) (k o : Nat) (hn : xs.length = n) (ho : k < n → o = k) : Row w (some ⟨g, o, none⟩) (xs.drop k) := by
  by_cases hk : k < n
  · rw [ho hk]
    refine .inr ⟨g, k, rfl, fun i hi => ?_⟩
    rw [List.length_drop] at hi
    have hi2 : k + i < xs.length := by omega
    have := rowT_at h rfl (show (ints xs)[k + i]? = some (.int .i64 xs[k + i]) by simp [ints, hi2])
    rw [this]
    rw [List.getElem?_drop, List.getElem?_eq_getElem hi2]; rfl
  · exact .inl (List.drop_of_length_le (by omega))
/-- what putting a number tells -/
def PutAns (w w' : World) (B : Nat) (v : Value) (l : List Nat) (n : Nat) (e : Ending) : Prop :=
  ∃ va vc, e = .returned (.slice va (putL l n).length vc) ∧ w'.ownsRow B 3 1 (.slice va (putL l n).length vc) (putL l n).length (ints (nats (putL l n))) ∧ (∀ g, (Value.slice va (putL l n).length vc).ownBlock = some g → v.ownBlock = some g ∨ w.heap.size ≤ g) ∧ Below w.heap.size w w'
theorem putAns_same {w : World} {B : Nat} {v : Value} {l : List Nat} {n : Nat} (h : w.ownsRow B 3 1 v l.length (ints (nats l))) (he : putL l n = l) : PutAns w w B v l n (.returned v) := by
  obtain ⟨va, vc, rfl⟩ := slice_of_owned h
  refine ⟨va, vc, by rw [he], by rw [he]; exact h, fun g hg => .inl (by rw [he] at hg; exact hg), Below.refl _ _⟩
theorem putAns_new {w w' : World} {B : Nat} {v : Value} {l : List Nat} {n k m : Nat} {va : Option Addr} {vc : Nat} {xs : List Value} (h : w'.ownsRow w.heap.size 3 1 (.slice va m vc) m xs) (hm : m = (putL l n).length) (hx : xs = ints (nats (putL l n))) (hb : Below w.heap.size w w') (hB : B ≤ w.heap.size) : PutAns w w' B v l n (.returned (.slice va m vc)) := by
  subst hm; subst hx
  exact ⟨va, vc, rfl, owns_mono h hB, fun g hg => .inr (h.lt g hg).1, hb⟩
theorem putL_len (l : List Nat) (n : Nat) : (putL l n).length ≤ l.length + 1 := by
  induction l with
  | nil => simp [putL]
  | cons x r ih => unfold putL; split <;> simp; · omega
                   split <;> simp
theorem ints_append (xs ys : List Int) : ints (xs ++ ys) = ints xs ++ ints ys := by simp [ints]
theorem cast_lt {x n : Nat} : ((x : Int) < (n : Int)) = (x < n) := by simp
theorem nats_get {l : List Nat} {k : Nat} {v : Int} (h : (nats l)[k]? = some v) : ∃ x : Nat, v = x ∧ l[k]? = some x := by
  simp only [nats, List.getElem?_map] at h
  cases hk : l[k]? with
  | none => simp [hk] at h
  | some x => simp [hk] at h; exact ⟨x, h.symm, rfl⟩
set_option maxHeartbeats 4000000 in
theorem l1Put_nil (n : Nat) (B : Nat) (w : World) (hn : n ≤ 1000000) (hB : B ≤ w.heap.size) :
    Calls Tryz.prog 51 #[.slice none 0 0, .int .i64 n] w fun e w' => PutAns w w' B (.slice none 0 0) [] n e := by
  have hn1 : News (w.alloc (.cells #[.int .i64 n] 3)) (some ⟨w.heap.size, 0, none⟩) 1 1 [.int .i64 n] := News.one w _ _ _ rfl rfl
  have hs0 : Sep w w.heap.size ([] ++ ⟨3, 1, .slice none 0 0, 0, []⟩ :: []) := sep_one (World.ownsRow_nil _ _ _ _)
  have HS := hid hs0
  clear hs0
  go_enter Tryz.func51, Tryz.ntmps51
  go_wp2
  go_loop [5] (fun t5 => t5 = .int .i64 0) (fun _ => 0)
  case atStart => exact rfl
  case round =>
    obtain rfl := hrel
    go_wp2_with (at_builtin; refine wpList_append_sep eltInt rfl _ _ rfl w.heap.size [] HS.out rfl (News.ints (xs := []) (.inl rfl)) rfl (by decide) (Nat.le_refl _) ?_)
    intro va vc w1 hs1 hb1 hg1
    have HS1 := hid (Sep.below hs1 (below1 w1 (.cells #[.int .i64 n] 3)))
    have HN1 := hid (News.one w1 (.int .i64 n) 3 _ rfl rfl)
    have HB1 := hid (hb1.trans ((below1 w1 (.cells #[.int .i64 n] 3)).mono hb1.size))
    clear hs1 hb1 hg1 hn1
    go_wp2_with (at_builtin; refine wpList_append_sep eltInt rfl _ _ rfl w.heap.size [] HS1.out rfl HN1.out rfl (by decide) HB1.out.size ?_)
    intro va2 vc2 w2 hs2 hb2 hg2
    have HB2 := hid (HB1.out.trans hb2)
    have HS2 := hid hs2
    clear hs2 hb2 hg2
    go_wp2_with (at_builtin; refine wpList_append_sep eltInt rfl _ _ rfl w.heap.size [] HS2.out rfl (News.ints (xs := []) (.inl rfl)) rfl (by decide) HB2.out.size ?_)
    intro va3 vc3 w3 hs3 hb3 hg3
    have HB3 := hid (HB2.out.trans hb3)
    have HS3 := hid hs3
    clear hs3 hb3 hg3
    go_wp2
    go_ret
    exact putAns_new (k := 0) (one_sep HS3.out) (by simp [putL]) (by simp [putL, ints, nats]) HB3.out hB
set_option maxHeartbeats 4000000 in
theorem l1Put_some (g c : Nat) (l : List Nat) (n : Nat) (B : Nat) (w : World) (hl : l.length ≤ 1000) (hn : n ≤ 1000000) (h : w.ownsRow B 3 1 (.slice (some ⟨g, 0, none⟩) l.length c) l.length (ints (nats l))) (hB : B ≤ w.heap.size) :
    Calls Tryz.prog 51 #[.slice (some ⟨g, 0, none⟩) l.length c, .int .i64 n] w fun e w' => PutAns w w' B (.slice (some ⟨g, 0, none⟩) l.length c) l n e := by
  have hs0 : Sep w w.heap.size ([] ++ ⟨3, 1, .slice none 0 0, 0, []⟩ :: []) := sep_one (World.ownsRow_nil _ _ _ _)
  have HS := hid hs0
  have hc : l.length ≤ c ∧ c ≤ 9223372036854775807 := by
    rcases h.2 with ⟨h0, _⟩ | ⟨g', cap, cur, he, _, _, h1, h2, _⟩
    · cases h0
    · injection he with e1 e2 e3
      subst e3
      unfold maxLen at h2
      omega
  have HO := hid h
  have HB0 := hid hB
  obtain ⟨Q, hQ⟩ : ∃ Q : World → Ending → Prop, ∀ w' e, PutAns w w' B (.slice (some ⟨g, 0, none⟩) l.length c) l n e ↔ Q w' e := ⟨_, fun _ _ => Iff.rfl⟩
  clear hs0 h hB hQ Q
  go_enter Tryz.func51, Tryz.ntmps51
  go_wp2
  go_loop [5] (fun t5 => ∃ k : Nat, t5 = .int .i64 k ∧ k ≤ l.length ∧ (∀ (j : Nat) x, j < k → l[j]? = some x → x < n)) (fun t5 => l.length - (intOf t5).toNat)
  case atStart => exact ⟨0, rfl, by omega, by intro j x hj; omega⟩
  case round =>
    obtain ⟨k, rfl, hk, hf⟩ := hrel
    have HF := hid hf
    clear hf
    have HNL : Hid ((nats l).length = l.length) := nats_length l
    have tail : Hid (∀ (hlast : ∀ x, l[k]? = some x → n ≤ x ∧ ¬ x = n), putL l n = l.take k ++ n :: l.drop k) := fun hlast => by
      rw [putL_eq l k n HF.out (fun x hx => (hlast x hx).1) hk]
      by_cases e : l[k]? = some n
      · exact absurd rfl (hlast n e).2
      · rw [if_neg e]
    by_cases hlt : k < l.length
    · obtain ⟨x, hx⟩ : ∃ x, l[k]? = some x := ⟨_, List.getElem?_eq_getElem hlt⟩
      have c1 : w.cell? ⟨g, k, none⟩ = some (.int .i64 (x : Int)) := by
        refine rowT_at HO.out rfl ?_
        simp [ints, nats, hx]
      have HX := hid hx
      clear hx
      by_cases hxn : x < n
      · have hxn' : (x : Int) < n := by omega
        go_wp2
        go_round
        case rel =>
          refine ⟨k + 1, by go_num, by omega, fun j y hj hy => ?_⟩
          by_cases e : j = k
          · subst e; rw [HX.out] at hy; cases hy; exact hxn
          · exact HF.out j y (by omega) hy
        case measure => simp [intOf]; omega
      · have hxn' : ¬ (x : Int) < n := by omega
        by_cases he : x = n
        · subst he
          have HE : Hid (putL l x = l) := by
            show _ = _
            rw [putL_eq l k x HF.out (fun y hy => by rw [HX.out] at hy; cases hy; exact Nat.le_refl _) hk, if_pos HX.out]
          clear tail
          go_wp2
          go_ret
          exact putAns_same HO.out HE.out
        · have he' : ¬ (x : Int) = n := by omega
          have HP := hid (tail.out (fun y hy => by rw [HX.out] at hy; cases hy; exact ⟨by omega, he⟩))
          clear tail
          have hck : ¬ c = k := by omega
          have HR1 := hid (row_take HO.out k (by omega) HNL.out)
          have HR2 := hid (row_drop HO.out k k HNL.out (by intro _; rfl))
          obtain ⟨ts, hts, htl⟩ : ∃ ts : List Int, (nats l).take k = ts ∧ ts.length = k := ⟨_, rfl, by rw [List.length_take, HNL.out]; omega⟩
          obtain ⟨ds, hds, hdl⟩ : ∃ ds : List Int, (nats l).drop k = ds ∧ ds.length = l.length - k := ⟨_, rfl, by rw [List.length_drop, HNL.out]⟩
          have HT1 : Hid (News w (some ⟨g, 0, none⟩) k 1 (ints ts)) := by
            have := News.ints HR1.out
            rw [hts, htl] at this
            exact this
          have HD1 : Hid (∀ W, Below w.heap.size w W → News W (some ⟨g, k, none⟩) (l.length - k) 1 (ints ds)) := by
            intro W hW
            have := News.ints (HR2.out.below hW)
            rw [hds, hdl] at this
            exact this
          have HTS := hid (And.intro hts (And.intro htl (And.intro hds hdl)))
          clear hts htl hds hdl HR1 HR2
          go_wp2_with (at_builtin; refine wpList_append_sep eltInt rfl _ _ rfl w.heap.size [] HS.out rfl HT1.out rfl (by omega) (Nat.le_refl _) ?_)
          intro va vc w1 hs1 hb1 hg1
          have HS1 := hid (Sep.below hs1 (below1 w1 (.cells #[.int .i64 n] 3)))
          have HN1 := hid (News.one w1 (.int .i64 n) 3 _ rfl rfl)
          have HB1 := hid (hb1.trans ((below1 w1 (.cells #[.int .i64 n] 3)).mono hb1.size))
          clear hs1 hb1 hg1
          go_wp2_with (at_builtin; refine wpList_append_sep eltInt rfl _ _ rfl w.heap.size [] HS1.out rfl HN1.out rfl (by omega) HB1.out.size ?_)
          intro va2 vc2 w2 hs2 hb2 hg2
          have HB2 := hid (HB1.out.trans hb2)
          have HS2 := hid hs2
          have HD2 := hid (HD1.out w2 HB2.out)
          clear hs2 hb2 hg2
          go_wp2_with (at_builtin; refine wpList_append_sep eltInt rfl _ _ rfl w.heap.size [] HS2.out rfl HD2.out rfl (by omega) HB2.out.size ?_)
          intro va3 vc3 w3 hs3 hb3 hg3
          have HB3 := hid (HB2.out.trans hb3)
          have HS3 := hid hs3
          clear hs3 hb3 hg3
          go_wp2
          go_ret
          refine putAns_new (k := k) (one_sep HS3.out) ?_ ?_ HB3.out HB0.out
          · rw [HP.out]; simp; omega
          · rw [HP.out, ← HTS.out.1, ← HTS.out.2.2.1]
            simp [ints, nats]
    · obtain rfl : k = l.length := by omega
      have HP := hid (tail.out (fun y hy => by simp at hy))
      clear tail
      by_cases hck : c = l.length
      · subst hck
        have HR1 := hid (row_take HO.out l.length (by omega) HNL.out)
        obtain ⟨ts, hts, htl⟩ : ∃ ts : List Int, (nats l).take l.length = ts ∧ ts.length = l.length := ⟨_, rfl, by rw [List.length_take, HNL.out]; omega⟩
        have HT1 : Hid (News w (some ⟨g, 0, none⟩) l.length 1 (ints ts)) := by
          have := News.ints HR1.out
          rw [hts, htl] at this
          exact this
        have HTS := hid (And.intro hts htl)
        clear hts htl HR1
        go_wp2_with (at_builtin; refine wpList_append_sep eltInt rfl _ _ rfl w.heap.size [] HS.out rfl HT1.out rfl (by omega) (Nat.le_refl _) ?_)
        intro va vc w1 hs1 hb1 hg1
        have HS1 := hid (Sep.below hs1 (below1 w1 (.cells #[.int .i64 n] 3)))
        have HN1 := hid (News.one w1 (.int .i64 n) 3 _ rfl rfl)
        have HB1 := hid (hb1.trans ((below1 w1 (.cells #[.int .i64 n] 3)).mono hb1.size))
        clear hs1 hb1 hg1
        go_wp2_with (at_builtin; refine wpList_append_sep eltInt rfl _ _ rfl w.heap.size [] HS1.out rfl HN1.out rfl (by omega) HB1.out.size ?_)
        intro va2 vc2 w2 hs2 hb2 hg2
        have HB2 := hid (HB1.out.trans hb2)
        have HS2 := hid hs2
        clear hs2 hb2 hg2
        go_wp2_with (at_builtin; refine wpList_append_sep eltInt rfl _ _ rfl w.heap.size [] HS2.out rfl (News.ints (xs := []) (.inl rfl)) rfl (by simp; omega) HB2.out.size ?_)
        intro va3 vc3 w3 hs3 hb3 hg3
        have HB3 := hid (HB2.out.trans hb3)
        have HS3 := hid hs3
        clear hs3 hb3 hg3
        go_wp2
        go_ret
        refine putAns_new (k := l.length) (one_sep HS3.out) ?_ ?_ HB3.out HB0.out
        · rw [HP.out]; simp
        · have e0 : (nats l).take l.length = nats l := List.take_of_length_le (by rw [HNL.out]; exact Nat.le_refl _)
          rw [HP.out, ← HTS.out.1, e0]
          simp [ints, nats]
      · skip
        have HR1 := hid (row_take HO.out l.length (by omega) HNL.out)
        obtain ⟨ts, hts, htl⟩ : ∃ ts : List Int, (nats l).take l.length = ts ∧ ts.length = l.length := ⟨_, rfl, by rw [List.length_take, HNL.out]; omega⟩
        have HT1 : Hid (News w (some ⟨g, 0, none⟩) l.length 1 (ints ts)) := by
          have := News.ints HR1.out
          rw [hts, htl] at this
          exact this
        have HTS := hid (And.intro hts htl)
        clear hts htl HR1
        go_wp2_with (at_builtin; refine wpList_append_sep eltInt rfl _ _ rfl w.heap.size [] HS.out rfl HT1.out rfl (by omega) (Nat.le_refl _) ?_)
        intro va vc w1 hs1 hb1 hg1
        have HS1 := hid (Sep.below hs1 (below1 w1 (.cells #[.int .i64 n] 3)))
        have HN1 := hid (News.one w1 (.int .i64 n) 3 _ rfl rfl)
        have HB1 := hid (hb1.trans ((below1 w1 (.cells #[.int .i64 n] 3)).mono hb1.size))
        clear hs1 hb1 hg1
        go_wp2_with (at_builtin; refine wpList_append_sep eltInt rfl _ _ rfl w.heap.size [] HS1.out rfl HN1.out rfl (by omega) HB1.out.size ?_)
        intro va2 vc2 w2 hs2 hb2 hg2
        have HB2 := hid (HB1.out.trans hb2)
        have HS2 := hid hs2
        clear hs2 hb2 hg2
        go_wp2_with (at_builtin; refine wpList_append_sep eltInt rfl _ _ rfl w.heap.size [] HS2.out rfl (News.ints (xs := []) (.inl rfl)) rfl (by simp; omega) HB2.out.size ?_)
        intro va3 vc3 w3 hs3 hb3 hg3
        have HB3 := hid (HB2.out.trans hb3)
        have HS3 := hid hs3
        clear hs3 hb3 hg3
        go_wp2
        go_ret
        refine putAns_new (k := l.length) (one_sep HS3.out) ?_ ?_ HB3.out HB0.out
        · rw [HP.out]; simp
        · have e0 : (nats l).take l.length = nats l := List.take_of_length_le (by rw [HNL.out]; exact Nat.le_refl _)
          rw [HP.out, ← HTS.out.1, e0]
          simp [ints, nats]
theorem l1Put_any (v : Value) (l : List Nat) (n : Nat) (B : Nat) (w : World) (hl : l.length ≤ 1000) (hn : n ≤ 1000000) (h : w.ownsRow B 3 1 v l.length (ints (nats l))) (hB : B ≤ w.heap.size) :
    Calls Tryz.prog 51 #[v, .int .i64 n] w fun e w' => PutAns w w' B v l n e := by
  rcases h.2 with ⟨rfl, h0⟩ | ⟨g, c, cur, rfl, _⟩
  · obtain rfl : l = [] := List.eq_nil_of_length_eq_zero h0
    exact l1Put_nil n B w hn hB
  · exact l1Put_some g c l n B w hl hn h hB
end Go.Proofs.YtiadmmnnbnamjaaGreat
