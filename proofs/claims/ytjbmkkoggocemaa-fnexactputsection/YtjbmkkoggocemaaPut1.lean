/- What the program's PutSection answers, at every list of sections. -/
import Derived.Test.YtjbmkkoggocemaaPutS
import Derived.Deep.Onto
namespace Go.Proofs.Ytjbmkkoggocemaa
open Go.RowKit
set_option linter.unusedVariables false
set_option linter.unusedSimpArgs false

set_option maxHeartbeats 4000000 in
set_option maxRecDepth 100000 in
/-- the program's PutSection -/
theorem iPut_some (b off c : Nat) (xs : List Sec) (id : Int) (s : ByteArray) (w : World) (hs : s.size ≤ 9223372036854775807) (hcap : xs.length ≤ c) (hc : c ≤ 9223372036854775807) (h : SRow w (some ⟨b, off, none⟩) xs) (hg : goodB xs = true) (hin : inB 1 11 id = true) :
    Calls Try.prog 36 #[.slice (some ⟨b, off, none⟩) xs.length c, .int .i64 id, .string s] w fun e w' => ∃ v, e = .returned (.tuple #[v, .bool (putG xs id s)]) ∧ Owns w' w.heap.size v (putP xs id s) ∧ Below w.heap.size w w' := by
  obtain ⟨i0, hi, hz0, hz1, hz2⟩ := info_parts info31
  have hl8 : xs.length ≤ 8 := (good_from hg).2
  have hgd := fun w h => iGood_any (some ⟨b, off, none⟩) c xs w (by omega) h
  have hpl := fun w h => place_any (some ⟨b, off, none⟩) c xs id w (by omega) h
  rw [hg] at hgd
  have hple := plc_le xs id
  have hble := bhd_le xs id
  obtain ⟨k, hk⟩ : ∃ k, plc xs id = k := ⟨_, rfl⟩
  obtain ⟨m, hm⟩ : ∃ m, bhd xs id = m := ⟨_, rfl⟩
  have hbd : bhd xs id = plc xs id + (if fnd xs id then 1 else 0) := rfl
  have hpL : putL xs id s = xs.take (plc xs id) ++ [(id, s)] ++ xs.drop (bhd xs id) := rfl
  rw [hk, hm] at hpL
  rw [hk, hm] at hbd
  rw [hk] at hpl hple
  rw [hm] at hble
  have HPL : Hid (∀ w, SRow w (some ⟨b, off, none⟩) xs → Calls Try.prog 41 #[.slice (some ⟨b, off, none⟩) xs.length c, .int .i64 id] w fun e w' => e = .returned (.tuple #[.int .i64 k, .bool (fnd xs id)]) ∧ Below w.heap.size w w') := hpl
  have HGD : Hid (∀ w, SRow w (some ⟨b, off, none⟩) xs → Calls Try.prog 26 #[.slice (some ⟨b, off, none⟩) xs.length c] w fun e w' => e = .returned (.bool true) ∧ Below w.heap.size w w') := hgd
  have HP : Hid (putL xs id s = xs.take k ++ [(id, s)] ++ xs.drop m) := hpL
  clear hpl hgd hpL hk hm
  cases hf : fnd xs id with
  | true =>
    rw [hf] at hbd HPL
    have hmk : m = k + 1 := by simpa using hbd
    clear hbd
    subst m
    have HF : Hid (_) := hf
    obtain ⟨oe, hoe, HOE⟩ : ∃ oe, (if c = k + 1 then some (⟨b, off, none⟩ : Addr) else some ⟨b, off + (k + 1) * 2, none⟩) = some ⟨b, oe, none⟩ ∧ Hid (∀ w', SRow w' (some ⟨b, off, none⟩) xs → ∀ (j : Nat) (u : Value), (flat (xs.drop (k + 1)))[j]? = some u → w'.cell? ⟨b, oe + j, none⟩ = some u) := by
      by_cases hcm : c = k + 1
      · refine ⟨off, by rw [if_pos hcm], fun w' hr j u hu => ?_⟩
        rw [List.drop_of_length_le (by omega)] at hu
        simp [flat] at hu
      · exact ⟨off + (k + 1) * 2, by rw [if_neg hcm], fun w' hr j u hu => row_drop hr _ j u hu⟩
    clear hf
    go_enter Try.func36, Try.ntmps36
    go_wp2_with fail
    refine (HGD.out _ h).mono ?_
    rintro e w1 ⟨rfl, B1⟩
    go_wp2_with fail
    refine (hasPlace_any _ _).mono ?_
    rintro e w' ⟨rfl, hw⟩
    subst w'
    go_wp2_with fail
    refine (HPL.out _ (h.below B1)).mono ?_
    rintro e w2 ⟨rfl, hb2⟩
    have B2 := bstep B1 (Nat.le_refl _) hb2
    have Ba : Below w.heap.size w (w2.alloc (.cells #[.int .i64 id, .string s] 31)) := B2.alloc B2.size _
    have HR : Hid (SRow (w2.alloc (.cells #[.int .i64 id, .string s] 31)) (some ⟨b, off, none⟩) xs) := h.below Ba
    go_wp2_with (at_builtin; refine wpList_append_grows _ rfl _ _ 23 rfl 31 i0 (.agg #[.int .i64 0, .string ⟨#[]⟩]) 2 24 Try.underlying23 hi hz0 hz1 hz2 rfl (by decide) (some ⟨b, off, none⟩) k k (flat (xs.take k)) rfl ?d0 ?d1 ?d2 ⟨w2.heap.size, 0, none⟩ 1 1 [.int .i64 id, .string s] rfl rfl ?d3 ?d4 ?d5 ?d6 ?d7 ?_)
    case d0 => intro h; cases h
    case d1 => rw [flat_length, List.length_take]; omega
    case d2 => intro b' hb' j u hu; cases hb'; rw [Addr.add_lit]; exact row_take HR.out k j u hu
    case d3 =>
      intro j u hj
      match j, hj with
      | 0, hj => simp at hj; subst hj; simp [Addr.add]
      | 1, hj => simp at hj; subst hj; simp [Addr.add]
    case d4 => intro u hu; simp at hu; rcases hu with rfl | rfl <;> rfl
    case d5 => omega
    case d6 => unfold maxLen; omega
    case d7 => omega
    intro v3 w3 O3 g3
    have B3 : Below w.heap.size w w3 := below_grown Ba (Nat.le_refl _) g3 (fun k hk => by cases hk)
    have O3' : Owns w3 w.heap.size v3 (xs.take k ++ [(id, s)]) := by
      unfold Owns
      rw [flat_append]
      have hlen : (xs.take k ++ [(id, s)]).length = k + 1 := by simp; omega
      rw [hlen]
      exact World.ownsRow.mono O3 (by have := Ba.size; simpa using this)
    clear O3
    have HR3 : Hid (SRow w3 (some ⟨b, off, none⟩) xs) := h.below B3
    have hln3 : (xs.take k ++ [(id, s)]).length = k + 1 := by simp; omega
    obtain ⟨a3, c3, rfl⟩ := O3'.slice
    have O3'' : w3.ownsRow w.heap.size 31 2 (.slice a3 (xs.take k ++ [(id, s)]).length c3) (k + 1) (flat (xs.take k ++ [(id, s)])) := by
      have := O3'
      unfold Owns at this
      rwa [hln3] at this ⊢
    clear O3'
    go_wp2_with (at_builtin; go_loud (refine wpList_append_own _ rfl _ _ 23 rfl w.heap.size 31 i0 (.agg #[.int .i64 0, .string ⟨#[]⟩]) 2 24 Try.underlying23 hi hz0 hz1 hz2 rfl (by decide) _ _ _ rfl O3'' ⟨b, oe, none⟩ (xs.length - (k + 1)) (c - (k + 1)) (flat (xs.drop (k + 1))) rfl ?e1 ?e2 ?e3 ?e4 ?e5 ?e6 ?_))
    case e1 => rw [flat_length, List.length_drop]
    case e2 => intro j u hu; rw [Addr.add_lit]; exact HOE.out _ HR3.out j u hu
    case e3 => exact flat_one _
    case e4 => unfold maxLen; omega
    case e5 => omega
    case e6 => exact B3.size
    intro v4 w4 O4 g4 _
    have O4' : Owns w4 w.heap.size v4 (putL xs id s) := by
      unfold Owns
      rw [HP.out, flat_append]
      have hlen : (xs.take k ++ [(id, s)] ++ xs.drop (k + 1)).length = k + 1 + (xs.length - (k + 1)) := by simp; omega
      rw [hlen]
      first
        | exact O4
        | (have he : k + 1 + (xs.length - (k + 1)) = xs.length := by omega
           rw [he]; exact O4)
    have B4 : Below w.heap.size w w4 := below_grown B3 (Nat.le_refl _) g4 (fun j hj => (World.ownsRow.lt O3'' j (by rw [hln3]; exact hj)).1)
    clear O4
    have hsz := putL_sizes xs id s h.sizes hs
    have hlp := putL_len xs id s
    obtain ⟨a4, c4, rfl⟩ := O4'.slice
    have hg4 := fun w h => iGood_any a4 c4 (putL xs id s) w (by omega) h
    have hrow4 := (O4'.row hsz).2
    cases hgp : goodB (putL xs id s) with
    | false =>
      rw [hgp] at hg4
      have hG : putG xs id s = false := by unfold putG; rw [hgp, Bool.and_false]
      have hY : putP xs id s = [] := by unfold putP; rw [hG]; rfl
      clear hgp
      go_wp2_with (go_at_call 26; refine (hg4 _ hrow4).mono ?_; rintro e w5 ⟨rfl, hb5⟩)
      go_ret2
      refine ⟨_, by rw [hG]; rfl, ?_, bstep B4 (Nat.le_refl _) hb5⟩
      rw [hY]
      exact World.ownsRow_nil _ _ _ _
    | true =>
      rw [hgp] at hg4
      have hG : putG xs id s = true := by unfold putG; rw [hgp, hg, hin]; rfl
      have hY : putP xs id s = putL xs id s := by unfold putP; rw [hG]; rfl
      clear hgp
      go_wp2_with (go_at_call 26; refine (hg4 _ hrow4).mono ?_; rintro e w5 ⟨rfl, hb5⟩)
      go_ret2
      refine ⟨_, by rw [hG]; rfl, ?_, bstep B4 (Nat.le_refl _) hb5⟩
      rw [hY]
      exact O4'.below hb5
  | false =>
    rw [hf] at hbd HPL
    have hmk : m = k := by simpa using hbd
    clear hbd
    subst m
    have HF : Hid (_) := hf
    obtain ⟨oe, hoe, HOE⟩ : ∃ oe, (if c = k then some (⟨b, off, none⟩ : Addr) else some ⟨b, off + (k) * 2, none⟩) = some ⟨b, oe, none⟩ ∧ Hid (∀ w', SRow w' (some ⟨b, off, none⟩) xs → ∀ (j : Nat) (u : Value), (flat (xs.drop (k)))[j]? = some u → w'.cell? ⟨b, oe + j, none⟩ = some u) := by
      by_cases hcm : c = k
      · refine ⟨off, by rw [if_pos hcm], fun w' hr j u hu => ?_⟩
        rw [List.drop_of_length_le (by omega)] at hu
        simp [flat] at hu
      · exact ⟨off + (k) * 2, by rw [if_neg hcm], fun w' hr j u hu => row_drop hr _ j u hu⟩
    clear hf
    go_enter Try.func36, Try.ntmps36
    go_wp2_with fail
    refine (HGD.out _ h).mono ?_
    rintro e w1 ⟨rfl, B1⟩
    go_wp2_with fail
    refine (hasPlace_any _ _).mono ?_
    rintro e w' ⟨rfl, hw⟩
    subst w'
    go_wp2_with fail
    refine (HPL.out _ (h.below B1)).mono ?_
    rintro e w2 ⟨rfl, hb2⟩
    have B2 := bstep B1 (Nat.le_refl _) hb2
    have Ba : Below w.heap.size w (w2.alloc (.cells #[.int .i64 id, .string s] 31)) := B2.alloc B2.size _
    have HR : Hid (SRow (w2.alloc (.cells #[.int .i64 id, .string s] 31)) (some ⟨b, off, none⟩) xs) := h.below Ba
    go_wp2_with (at_builtin; refine wpList_append_grows _ rfl _ _ 23 rfl 31 i0 (.agg #[.int .i64 0, .string ⟨#[]⟩]) 2 24 Try.underlying23 hi hz0 hz1 hz2 rfl (by decide) (some ⟨b, off, none⟩) k k (flat (xs.take k)) rfl ?d0 ?d1 ?d2 ⟨w2.heap.size, 0, none⟩ 1 1 [.int .i64 id, .string s] rfl rfl ?d3 ?d4 ?d5 ?d6 ?d7 ?_)
    case d0 => intro h; cases h
    case d1 => rw [flat_length, List.length_take]; omega
    case d2 => intro b' hb' j u hu; cases hb'; rw [Addr.add_lit]; exact row_take HR.out k j u hu
    case d3 =>
      intro j u hj
      match j, hj with
      | 0, hj => simp at hj; subst hj; simp [Addr.add]
      | 1, hj => simp at hj; subst hj; simp [Addr.add]
    case d4 => intro u hu; simp at hu; rcases hu with rfl | rfl <;> rfl
    case d5 => omega
    case d6 => unfold maxLen; omega
    case d7 => omega
    intro v3 w3 O3 g3
    have B3 : Below w.heap.size w w3 := below_grown Ba (Nat.le_refl _) g3 (fun k hk => by cases hk)
    have O3' : Owns w3 w.heap.size v3 (xs.take k ++ [(id, s)]) := by
      unfold Owns
      rw [flat_append]
      have hlen : (xs.take k ++ [(id, s)]).length = k + 1 := by simp; omega
      rw [hlen]
      exact World.ownsRow.mono O3 (by have := Ba.size; simpa using this)
    clear O3
    have HR3 : Hid (SRow w3 (some ⟨b, off, none⟩) xs) := h.below B3
    have hln3 : (xs.take k ++ [(id, s)]).length = k + 1 := by simp; omega
    obtain ⟨a3, c3, rfl⟩ := O3'.slice
    have O3'' : w3.ownsRow w.heap.size 31 2 (.slice a3 (xs.take k ++ [(id, s)]).length c3) (k + 1) (flat (xs.take k ++ [(id, s)])) := by
      have := O3'
      unfold Owns at this
      rwa [hln3] at this ⊢
    clear O3'
    go_wp2_with (at_builtin; go_loud (refine wpList_append_own _ rfl _ _ 23 rfl w.heap.size 31 i0 (.agg #[.int .i64 0, .string ⟨#[]⟩]) 2 24 Try.underlying23 hi hz0 hz1 hz2 rfl (by decide) _ _ _ rfl O3'' ⟨b, oe, none⟩ (xs.length - (k)) (c - (k)) (flat (xs.drop (k))) rfl ?e1 ?e2 ?e3 ?e4 ?e5 ?e6 ?_))
    case e1 => rw [flat_length, List.length_drop]
    case e2 => intro j u hu; rw [Addr.add_lit]; exact HOE.out _ HR3.out j u hu
    case e3 => exact flat_one _
    case e4 => unfold maxLen; omega
    case e5 => omega
    case e6 => exact B3.size
    intro v4 w4 O4 g4 _
    have O4' : Owns w4 w.heap.size v4 (putL xs id s) := by
      unfold Owns
      rw [HP.out, flat_append]
      have hlen : (xs.take k ++ [(id, s)] ++ xs.drop (k)).length = k + 1 + (xs.length - (k)) := by simp; omega
      rw [hlen]
      first
        | exact O4
        | (have he : k + 1 + (xs.length - (k)) = xs.length := by omega
           rw [he]; exact O4)
    have B4 : Below w.heap.size w w4 := below_grown B3 (Nat.le_refl _) g4 (fun j hj => (World.ownsRow.lt O3'' j (by rw [hln3]; exact hj)).1)
    clear O4
    have hsz := putL_sizes xs id s h.sizes hs
    have hlp := putL_len xs id s
    obtain ⟨a4, c4, rfl⟩ := O4'.slice
    have hg4 := fun w h => iGood_any a4 c4 (putL xs id s) w (by omega) h
    have hrow4 := (O4'.row hsz).2
    cases hgp : goodB (putL xs id s) with
    | false =>
      rw [hgp] at hg4
      have hG : putG xs id s = false := by unfold putG; rw [hgp, Bool.and_false]
      have hY : putP xs id s = [] := by unfold putP; rw [hG]; rfl
      clear hgp
      go_wp2_with (go_at_call 26; refine (hg4 _ hrow4).mono ?_; rintro e w5 ⟨rfl, hb5⟩)
      go_ret2
      refine ⟨_, by rw [hG]; rfl, ?_, bstep B4 (Nat.le_refl _) hb5⟩
      rw [hY]
      exact World.ownsRow_nil _ _ _ _
    | true =>
      rw [hgp] at hg4
      have hG : putG xs id s = true := by unfold putG; rw [hgp, hg, hin]; rfl
      have hY : putP xs id s = putL xs id s := by unfold putP; rw [hG]; rfl
      clear hgp
      go_wp2_with (go_at_call 26; refine (hg4 _ hrow4).mono ?_; rintro e w5 ⟨rfl, hb5⟩)
      go_ret2
      refine ⟨_, by rw [hG]; rfl, ?_, bstep B4 (Nat.le_refl _) hb5⟩
      rw [hY]
      exact O4'.below hb5
end Go.Proofs.Ytjbmkkoggocemaa
