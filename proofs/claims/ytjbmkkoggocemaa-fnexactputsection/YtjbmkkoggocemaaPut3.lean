/- What the model's PutSection answers, at every list of sections. -/
import Derived.Test.YtjbmkkoggocemaaPut2
namespace Go.Proofs.Ytjbmkkoggocemaa
open Go.RowKit
set_option linter.unusedVariables false
set_option linter.unusedSimpArgs false

theorem SRow.get {w : World} {b off : Nat} {xs : List Sec} (h : SRow w (some ⟨b, off, none⟩) xs) : ∀ w', Below w.heap.size w w' → ∀ k, k < xs.length → ∃ i s, w'.cell? ⟨b, off + k * 2, none⟩ = some (.int .i64 i) ∧ w'.cell? ⟨b, off + k * 2 + 1, none⟩ = some (.string s) ∧ Hid (xs[k]? = some (i, s)) := by
  intro w' hb k hk
  have hne : xs ≠ [] := by intro e; subst e; simp at hk
  obtain ⟨b', off', he, hat⟩ := h.at hne
  injection he with he
  injection he with h1 h2
  subst h1 h2
  obtain ⟨i, s, c1, c2, _, _, HX⟩ := hat w' hb k hk
  exact ⟨i, s, c1, c2, HX⟩

set_option maxHeartbeats 4000000 in
set_option maxRecDepth 100000 in
/-- the model's PutSection -/
theorem sPut_some (b off c : Nat) (xs : List Sec) (id : Int) (s : ByteArray) (w : World) (hs : s.size ≤ 9223372036854775807) (hcap : xs.length ≤ c) (hc : c ≤ 9223372036854775807) (h : SRow w (some ⟨b, off, none⟩) xs) (hg : goodB xs = true) (hin : inB 1 11 id = true) (h2 : s.size ≤ 200) :
    Calls Try.prog 35 #[.slice (some ⟨b, off, none⟩) xs.length c, .int .i64 id, .string s] w fun e w' => ∃ v, e = .returned (.tuple #[v, .bool (putG xs id s)]) ∧ Owns w' w.heap.size v (putP xs id s) ∧ Below w.heap.size w w' := by
  obtain ⟨i0, hi, hz0, hz1, hz2⟩ := info_parts info31
  have hl8 : xs.length ≤ 8 := (good_from hg).2
  have hgd := fun w h => sGood_any (some ⟨b, off, none⟩) c xs w (by omega) h
  rw [hg] at hgd
  have HGD : Hid (∀ w, SRow w (some ⟨b, off, none⟩) xs → Calls Try.prog 24 #[.slice (some ⟨b, off, none⟩) xs.length c] w fun e w' => e = .returned (.bool true) ∧ Below w.heap.size w w') := hgd
  have HA : Hid (_) := h.get
  clear hgd
  go_enter Try.func35, Try.ntmps35
  go_wp2_with fail
  refine (HGD.out _ h).mono ?_
  rintro e w1 ⟨rfl, B1⟩
  go_wp2_with (go_at_call 51; refine (l1In_any _ _ _ _).mono ?_; rintro e w' ⟨rfl, hw⟩; subst w')
  go_loopw [8] (fun t wr => ∃ (k : Nat), t = .int .i64 k ∧ k ≤ xs.length ∧ (∀ (j : Nat) (x : Sec), j < k → xs[j]? = some x → x.1 < id) ∧ wr = w1) (fun t _ => xs.length - (intOf t).toNat)
  case atStart => exact ⟨0, rfl, by omega, by intro j x hj; omega, rfl⟩
  case round =>
    obtain ⟨k, rfl, hk, hbf, rfl⟩ := hrel
    have HF : Hid (∀ (j : Nat) (x : Sec), j < k → xs[j]? = some x → x.1 < id) := hbf
    clear hbf
    by_cases hmore : ∃ i t, xs[k]? = some (i, t) ∧ i < id
    · obtain ⟨i, t, hx, hlo⟩ := hmore
      have hlt : k < xs.length := (List.getElem?_eq_some_iff.1 hx).1
      obtain ⟨i', t', c1, c2, HX⟩ := HA.out wr B1 k hlt
      obtain ⟨rfl, rfl⟩ : i = i' ∧ t = t' := by have := hx.symm.trans HX.out; simp at this; exact this
      clear hx
      go_wp2
      go_roundw
      case rel =>
        refine ⟨k + 1, by go_num, by omega, ?_, trivial⟩
        intro j x hj hx
        by_cases e : j = k
        · subst e; rw [HX.out] at hx; cases hx; exact hlo
        · exact HF.out j x (by omega) hx
      case measure => simp [intOf]; omega
    · have HK : Hid (plc xs id = k) := by
        show plc xs id = k
        by_cases hlt : k < xs.length
        · obtain ⟨⟨i, t⟩, hx⟩ : ∃ x, xs[k]? = some x := ⟨xs[k], by simp⟩
          have hge : id ≤ i := by
            cases Int.lt_or_le i id with
            | inl h => exact absurd ⟨i, t, hx, h⟩ hmore
            | inr h => exact h
          exact plc_here hx HF.out hge
        · obtain rfl : k = xs.length := by omega
          exact plc_none (fun j x hx => HF.out j x (List.getElem?_eq_some_iff.1 hx).1 hx)
      have hbd : bhd xs id = plc xs id + (if fnd xs id then 1 else 0) := rfl
      have hpL : putL xs id s = xs.take (plc xs id) ++ [(id, s)] ++ xs.drop (bhd xs id) := rfl
      have HFN : Hid (fnd xs id = match xs[k]? with | some x => x.1 == id | none => false) := by show _ = _; unfold fnd; rw [HK.out]; rfl
      have HM : Hid (∀ i t, xs[k]? = some (i, t) → id ≤ i) := by
        intro i t hx
        cases Int.lt_or_le i id with
        | inl h => exact absurd ⟨i, t, hx, h⟩ hmore
        | inr h => exact h
      obtain ⟨m, hm⟩ : ∃ m, bhd xs id = m := ⟨_, rfl⟩
      rw [hm, HK.out] at hpL hbd
      have hble := bhd_le xs id
      rw [hm] at hble
      have HP : Hid (putL xs id s = xs.take k ++ [(id, s)] ++ xs.drop m) := hpL
      clear hpL hm hmore
      by_cases hfd : ∃ t, xs[k]? = some (id, t)
      · obtain ⟨t, hx⟩ := hfd
        have hlt : k < xs.length := (List.getElem?_eq_some_iff.1 hx).1
        have hfn : fnd xs id = true := by rw [HFN.out, hx]; simp
        have hmk : m = k + 1 := by rw [hfn] at hbd; simpa using hbd
        clear hbd hfn HFN
        obtain ⟨i', t', c1, c2, HX⟩ := HA.out wr B1 k hlt
        obtain ⟨rfl, rfl⟩ : id = i' ∧ t = t' := by have := hx.symm.trans HX.out; simp at this; exact this
        clear hx HM
        have HR1 : Hid (SRow wr (some ⟨b, off, none⟩) xs) := h.below B1
        skip
        go_wp2_with (at_builtin; refine wpList_append_own _ rfl _ _ 23 rfl w.heap.size 31 i0 (.agg #[.int .i64 0, .string ⟨#[]⟩]) 2 24 Try.underlying23 hi hz0 hz1 hz2 rfl (by decide) _ _ _ rfl (World.ownsRow_nil _ _ _ _) ⟨b, off, none⟩ k c (flat (xs.take k)) rfl ?d1 ?d2 ?d3 ?d4 ?d5 ?d6 ?_)
        case d1 => rw [flat_length, List.length_take]; omega
        case d2 => intro j u hu; first | exact row_take HR1.out k j u hu | (rw [Addr.add_lit]; exact row_take HR1.out k j u hu)
        case d3 => exact flat_one _
        case d4 => unfold maxLen; omega
        case d5 => omega
        case d6 => exact B1.size
        intro v2 w2 O2' g2 _
        have O2 : w2.ownsRow w.heap.size 31 2 v2 k (flat (xs.take k)) := by simpa using O2'
        have B2 : Below w.heap.size w w2 := below_grown B1 (Nat.le_refl _) g2 (fun k hk => by cases hk)
        have Ba : Below w.heap.size w (w2.alloc (.cells #[.int .i64 id, .string s] 31)) := B2.alloc B2.size _
        clear O2'
        go_wp2_with (at_builtin; refine wpList_append_own _ rfl _ _ 23 rfl w.heap.size 31 i0 (.agg #[.int .i64 0, .string ⟨#[]⟩]) 2 24 Try.underlying23 hi hz0 hz1 hz2 rfl (by decide) _ _ _ rfl (O2.alloc _) ⟨w2.heap.size, 0, none⟩ 1 1 [.int .i64 id, .string s] rfl rfl ?f1 ?f2 ?f3 ?f4 ?f5 ?_)
        case f1 =>
          intro j u hj
          match j, hj with
          | 0, hj => simp at hj; subst hj; simp [Addr.add]
          | 1, hj => simp at hj; subst hj; simp [Addr.add]
        case f2 => intro u hu; simp at hu; rcases hu with rfl | rfl <;> rfl
        case f3 => unfold maxLen; omega
        case f4 => omega
        case f5 => have := B2.size; simp; omega
        intro v3 w3 O3 g3 _
        have B3 : Below w.heap.size w w3 := below_grown Ba (Nat.le_refl _) g3 (fun j hj => (World.ownsRow.lt O2 j hj).1)
        have HR3 : Hid (SRow w3 (some ⟨b, off, none⟩) xs) := h.below B3
        obtain ⟨i3, t3, d1, d2, HX3⟩ := HA.out w3 B3 k hlt
        obtain ⟨rfl, rfl⟩ : id = i3 ∧ t = t3 := by have := HX.out.symm.trans HX3.out; simp at this; exact this
        obtain ⟨oe, hoe, HOE⟩ : ∃ oe, (if c = k + 1 then some (⟨b, off, none⟩ : Addr) else some ⟨b, off + (k + 1) * 2, none⟩) = some ⟨b, oe, none⟩ ∧ Hid (∀ w', SRow w' (some ⟨b, off, none⟩) xs → ∀ (j : Nat) (u : Value), (flat (xs.drop (k + 1)))[j]? = some u → w'.cell? ⟨b, oe + j, none⟩ = some u) := by
          by_cases hcm : c = k + 1
          · refine ⟨off, by rw [if_pos hcm], fun w' hr j u hu => ?_⟩
            rw [List.drop_of_length_le (by omega)] at hu
            simp [flat] at hu
          · exact ⟨off + (k + 1) * 2, by rw [if_neg hcm], fun w' hr j u hu => row_drop hr _ j u hu⟩
        go_wp2_with (at_builtin; go_loud (refine wpList_append_own _ rfl _ _ 23 rfl w.heap.size 31 i0 (.agg #[.int .i64 0, .string ⟨#[]⟩]) 2 24 Try.underlying23 hi hz0 hz1 hz2 rfl (by decide) _ _ _ rfl O3 ⟨b, oe, none⟩ (xs.length - (k + 1)) (c - (k + 1)) (flat (xs.drop (k + 1))) rfl ?e1 ?e2 ?e3 ?e4 ?e5 ?e6 ?_))
        case e1 => rw [flat_length, List.length_drop]
        case e2 => intro j u hu; first | exact HOE.out _ HR3.out j u hu | (rw [Addr.add_lit]; exact HOE.out _ HR3.out j u hu)
        case e3 => exact flat_one _
        case e4 => unfold maxLen; omega
        case e5 => omega
        case e6 => exact B3.size
        intro v4 w4 O4 g4 _
        have O4' : Owns w4 w.heap.size v4 (putL xs id s) := by
          unfold Owns
          rw [HP.out, hmk, flat_append, flat_append]
          have hcons : flat (xs.take k) ++ flat [(id, s)] ++ flat (xs.drop (k + 1)) = flat (xs.take k) ++ Value.int .i64 id :: Value.string s :: flat (xs.drop (k + 1)) := by simp [flat]
          rw [hcons]
          have hlen : (xs.take k ++ [(id, s)] ++ xs.drop (k + 1)).length = k + 1 + (xs.length - (k + 1)) := by simp; omega
          rw [hlen]
          first
            | exact O4
            | (have he : k + 1 + (xs.length - (k + 1)) = xs.length := by omega
               rw [he]; exact O4)
        have B4 : Below w.heap.size w w4 := below_grown B3 (Nat.le_refl _) g4 (fun j hj => (World.ownsRow.lt O3 j hj).1)
        clear O4
        have hsz := putL_sizes xs id s h.sizes hs
        have hlp := putL_len xs id s
        obtain ⟨a4, c4, rfl⟩ := O4'.slice
        have hg4 := fun w h => sGood_any a4 c4 (putL xs id s) w (by omega) h
        have hrow4 := (O4'.row hsz).2
        cases hgp : goodB (putL xs id s) with
        | false =>
          rw [hgp] at hg4
          have hG : putG xs id s = false := by unfold putG; rw [hgp, Bool.and_false]
          have hY : putP xs id s = [] := by unfold putP; rw [hG]; rfl
          clear hgp
          go_wp2_with (go_at_call 24; refine (hg4 _ hrow4).mono ?_; rintro e w5 ⟨rfl, hb5⟩)
          go_ret2
          refine ⟨_, by rw [hG]; rfl, ?_, bstep B4 (Nat.le_refl _) hb5⟩
          rw [hY]
          exact World.ownsRow_nil _ _ _ _
        | true =>
          rw [hgp] at hg4
          have hG : putG xs id s = true := by unfold putG; rw [hgp, hg, hin]; rfl
          have hY : putP xs id s = putL xs id s := by unfold putP; rw [hG]; rfl
          clear hgp
          go_wp2_with (go_at_call 24; refine (hg4 _ hrow4).mono ?_; rintro e w5 ⟨rfl, hb5⟩)
          go_ret2
          refine ⟨_, by rw [hG]; rfl, ?_, bstep B4 (Nat.le_refl _) hb5⟩
          rw [hY]
          exact O4'.below hb5
      · by_cases hlt : k < xs.length
        · obtain ⟨i', t', c1, c2, HX⟩ := HA.out wr B1 k hlt
          have hne : i' ≠ id := by intro e; subst e; exact hfd ⟨t', HX.out⟩
          have hge : ¬ i' < id := by have := HM.out i' t' HX.out; omega
          have hfn : fnd xs id = false := by rw [HFN.out, HX.out]; simpa using hne
          have hmk : m = k := by rw [hfn] at hbd; simpa using hbd
          clear hbd hfn HFN hfd HM
          have HR1 : Hid (SRow wr (some ⟨b, off, none⟩) xs) := h.below B1
          skip
          go_wp2_with (at_builtin; refine wpList_append_own _ rfl _ _ 23 rfl w.heap.size 31 i0 (.agg #[.int .i64 0, .string ⟨#[]⟩]) 2 24 Try.underlying23 hi hz0 hz1 hz2 rfl (by decide) _ _ _ rfl (World.ownsRow_nil _ _ _ _) ⟨b, off, none⟩ k c (flat (xs.take k)) rfl ?d1 ?d2 ?d3 ?d4 ?d5 ?d6 ?_)
          case d1 => rw [flat_length, List.length_take]; omega
          case d2 => intro j u hu; first | exact row_take HR1.out k j u hu | (rw [Addr.add_lit]; exact row_take HR1.out k j u hu)
          case d3 => exact flat_one _
          case d4 => unfold maxLen; omega
          case d5 => omega
          case d6 => exact B1.size
          intro v2 w2 O2' g2 _
          have O2 : w2.ownsRow w.heap.size 31 2 v2 k (flat (xs.take k)) := by simpa using O2'
          have B2 : Below w.heap.size w w2 := below_grown B1 (Nat.le_refl _) g2 (fun k hk => by cases hk)
          have Ba : Below w.heap.size w (w2.alloc (.cells #[.int .i64 id, .string s] 31)) := B2.alloc B2.size _
          clear O2'
          go_wp2_with (at_builtin; refine wpList_append_own _ rfl _ _ 23 rfl w.heap.size 31 i0 (.agg #[.int .i64 0, .string ⟨#[]⟩]) 2 24 Try.underlying23 hi hz0 hz1 hz2 rfl (by decide) _ _ _ rfl (O2.alloc _) ⟨w2.heap.size, 0, none⟩ 1 1 [.int .i64 id, .string s] rfl rfl ?f1 ?f2 ?f3 ?f4 ?f5 ?_)
          case f1 =>
            intro j u hj
            match j, hj with
            | 0, hj => simp at hj; subst hj; simp [Addr.add]
            | 1, hj => simp at hj; subst hj; simp [Addr.add]
          case f2 => intro u hu; simp at hu; rcases hu with rfl | rfl <;> rfl
          case f3 => unfold maxLen; omega
          case f4 => omega
          case f5 => have := B2.size; simp; omega
          intro v3 w3 O3 g3 _
          have B3 : Below w.heap.size w w3 := below_grown Ba (Nat.le_refl _) g3 (fun j hj => (World.ownsRow.lt O2 j hj).1)
          have HR3 : Hid (SRow w3 (some ⟨b, off, none⟩) xs) := h.below B3
          obtain ⟨i3, t3, d1, d2, HX3⟩ := HA.out w3 B3 k hlt
          obtain ⟨rfl, rfl⟩ : i' = i3 ∧ t' = t3 := by have := HX.out.symm.trans HX3.out; simp at this; exact this
          obtain ⟨oe, hoe, HOE⟩ : ∃ oe, (if c = k then some (⟨b, off, none⟩ : Addr) else some ⟨b, off + (k) * 2, none⟩) = some ⟨b, oe, none⟩ ∧ Hid (∀ w', SRow w' (some ⟨b, off, none⟩) xs → ∀ (j : Nat) (u : Value), (flat (xs.drop (k)))[j]? = some u → w'.cell? ⟨b, oe + j, none⟩ = some u) := by
            by_cases hcm : c = k
            · refine ⟨off, by rw [if_pos hcm], fun w' hr j u hu => ?_⟩
              rw [List.drop_of_length_le (by omega)] at hu
              simp [flat] at hu
            · exact ⟨off + (k) * 2, by rw [if_neg hcm], fun w' hr j u hu => row_drop hr _ j u hu⟩
          go_wp2_with (at_builtin; go_loud (refine wpList_append_own _ rfl _ _ 23 rfl w.heap.size 31 i0 (.agg #[.int .i64 0, .string ⟨#[]⟩]) 2 24 Try.underlying23 hi hz0 hz1 hz2 rfl (by decide) _ _ _ rfl O3 ⟨b, off + k * 2, none⟩ (xs.length - (k)) (c - (k)) (flat (xs.drop (k))) rfl ?e1 ?e2 ?e3 ?e4 ?e5 ?e6 ?_))
          case e1 => rw [flat_length, List.length_drop]
          case e2 => intro j u hu; first | exact row_drop HR3.out _ j u hu | (rw [Addr.add_lit]; exact row_drop HR3.out _ j u hu)
          case e3 => exact flat_one _
          case e4 => unfold maxLen; omega
          case e5 => omega
          case e6 => exact B3.size
          intro v4 w4 O4 g4 _
          have O4' : Owns w4 w.heap.size v4 (putL xs id s) := by
            unfold Owns
            rw [HP.out, hmk, flat_append, flat_append]
            have hcons : flat (xs.take k) ++ flat [(id, s)] ++ flat (xs.drop (k)) = flat (xs.take k) ++ Value.int .i64 id :: Value.string s :: flat (xs.drop (k)) := by simp [flat]
            rw [hcons]
            have hlen : (xs.take k ++ [(id, s)] ++ xs.drop (k)).length = k + 1 + (xs.length - (k)) := by simp; omega
            rw [hlen]
            first
              | exact O4
              | (have he : k + 1 + (xs.length - (k)) = xs.length := by omega
                 rw [he]; exact O4)
          have B4 : Below w.heap.size w w4 := below_grown B3 (Nat.le_refl _) g4 (fun j hj => (World.ownsRow.lt O3 j hj).1)
          clear O4
          have hsz := putL_sizes xs id s h.sizes hs
          have hlp := putL_len xs id s
          obtain ⟨a4, c4, rfl⟩ := O4'.slice
          have hg4 := fun w h => sGood_any a4 c4 (putL xs id s) w (by omega) h
          have hrow4 := (O4'.row hsz).2
          cases hgp : goodB (putL xs id s) with
          | false =>
            rw [hgp] at hg4
            have hG : putG xs id s = false := by unfold putG; rw [hgp, Bool.and_false]
            have hY : putP xs id s = [] := by unfold putP; rw [hG]; rfl
            clear hgp
            go_wp2_with (go_at_call 24; refine (hg4 _ hrow4).mono ?_; rintro e w5 ⟨rfl, hb5⟩)
            go_ret2
            refine ⟨_, by rw [hG]; rfl, ?_, bstep B4 (Nat.le_refl _) hb5⟩
            rw [hY]
            exact World.ownsRow_nil _ _ _ _
          | true =>
            rw [hgp] at hg4
            have hG : putG xs id s = true := by unfold putG; rw [hgp, hg, hin]; rfl
            have hY : putP xs id s = putL xs id s := by unfold putP; rw [hG]; rfl
            clear hgp
            go_wp2_with (go_at_call 24; refine (hg4 _ hrow4).mono ?_; rintro e w5 ⟨rfl, hb5⟩)
            go_ret2
            refine ⟨_, by rw [hG]; rfl, ?_, bstep B4 (Nat.le_refl _) hb5⟩
            rw [hY]
            exact O4'.below hb5
        · have hfn : fnd xs id = false := by rw [HFN.out, List.getElem?_eq_none (by omega)]
          have hmk : m = k := by rw [hfn] at hbd; simpa using hbd
          clear hbd hfn HFN hfd HM
          have HR1 : Hid (SRow wr (some ⟨b, off, none⟩) xs) := h.below B1
          skip
          go_wp2_with (at_builtin; refine wpList_append_own _ rfl _ _ 23 rfl w.heap.size 31 i0 (.agg #[.int .i64 0, .string ⟨#[]⟩]) 2 24 Try.underlying23 hi hz0 hz1 hz2 rfl (by decide) _ _ _ rfl (World.ownsRow_nil _ _ _ _) ⟨b, off, none⟩ k c (flat (xs.take k)) rfl ?d1 ?d2 ?d3 ?d4 ?d5 ?d6 ?_)
          case d1 => rw [flat_length, List.length_take]; omega
          case d2 => intro j u hu; first | exact row_take HR1.out k j u hu | (rw [Addr.add_lit]; exact row_take HR1.out k j u hu)
          case d3 => exact flat_one _
          case d4 => unfold maxLen; omega
          case d5 => omega
          case d6 => exact B1.size
          intro v2 w2 O2' g2 _
          have O2 : w2.ownsRow w.heap.size 31 2 v2 k (flat (xs.take k)) := by simpa using O2'
          have B2 : Below w.heap.size w w2 := below_grown B1 (Nat.le_refl _) g2 (fun k hk => by cases hk)
          have Ba : Below w.heap.size w (w2.alloc (.cells #[.int .i64 id, .string s] 31)) := B2.alloc B2.size _
          clear O2'
          go_wp2_with (at_builtin; refine wpList_append_own _ rfl _ _ 23 rfl w.heap.size 31 i0 (.agg #[.int .i64 0, .string ⟨#[]⟩]) 2 24 Try.underlying23 hi hz0 hz1 hz2 rfl (by decide) _ _ _ rfl (O2.alloc _) ⟨w2.heap.size, 0, none⟩ 1 1 [.int .i64 id, .string s] rfl rfl ?f1 ?f2 ?f3 ?f4 ?f5 ?_)
          case f1 =>
            intro j u hj
            match j, hj with
            | 0, hj => simp at hj; subst hj; simp [Addr.add]
            | 1, hj => simp at hj; subst hj; simp [Addr.add]
          case f2 => intro u hu; simp at hu; rcases hu with rfl | rfl <;> rfl
          case f3 => unfold maxLen; omega
          case f4 => omega
          case f5 => have := B2.size; simp; omega
          intro v3 w3 O3 g3 _
          have B3 : Below w.heap.size w w3 := below_grown Ba (Nat.le_refl _) g3 (fun j hj => (World.ownsRow.lt O2 j hj).1)
          have HR3 : Hid (SRow w3 (some ⟨b, off, none⟩) xs) := h.below B3
          skip
          obtain ⟨oe, hoe, HOE⟩ : ∃ oe, (if c = k then some (⟨b, off, none⟩ : Addr) else some ⟨b, off + (k) * 2, none⟩) = some ⟨b, oe, none⟩ ∧ Hid (∀ w', SRow w' (some ⟨b, off, none⟩) xs → ∀ (j : Nat) (u : Value), (flat (xs.drop (k)))[j]? = some u → w'.cell? ⟨b, oe + j, none⟩ = some u) := by
            by_cases hcm : c = k
            · refine ⟨off, by rw [if_pos hcm], fun w' hr j u hu => ?_⟩
              rw [List.drop_of_length_le (by omega)] at hu
              simp [flat] at hu
            · exact ⟨off + (k) * 2, by rw [if_neg hcm], fun w' hr j u hu => row_drop hr _ j u hu⟩
          go_wp2_with (at_builtin; go_loud (refine wpList_append_own _ rfl _ _ 23 rfl w.heap.size 31 i0 (.agg #[.int .i64 0, .string ⟨#[]⟩]) 2 24 Try.underlying23 hi hz0 hz1 hz2 rfl (by decide) _ _ _ rfl O3 ⟨b, oe, none⟩ (xs.length - (k)) (c - (k)) (flat (xs.drop (k))) rfl ?e1 ?e2 ?e3 ?e4 ?e5 ?e6 ?_))
          case e1 => rw [flat_length, List.length_drop]
          case e2 => intro j u hu; first | exact HOE.out _ HR3.out j u hu | (rw [Addr.add_lit]; exact HOE.out _ HR3.out j u hu)
          case e3 => exact flat_one _
          case e4 => unfold maxLen; omega
          case e5 => omega
          case e6 => exact B3.size
          intro v4 w4 O4 g4 _
          have O4' : Owns w4 w.heap.size v4 (putL xs id s) := by
            unfold Owns
            rw [HP.out, hmk, flat_append, flat_append]
            have hcons : flat (xs.take k) ++ flat [(id, s)] ++ flat (xs.drop (k)) = flat (xs.take k) ++ Value.int .i64 id :: Value.string s :: flat (xs.drop (k)) := by simp [flat]
            rw [hcons]
            have hlen : (xs.take k ++ [(id, s)] ++ xs.drop (k)).length = k + 1 + (xs.length - (k)) := by simp; omega
            rw [hlen]
            first
              | exact O4
              | (have he : k + 1 + (xs.length - (k)) = xs.length := by omega
                 rw [he]; exact O4)
          have B4 : Below w.heap.size w w4 := below_grown B3 (Nat.le_refl _) g4 (fun j hj => (World.ownsRow.lt O3 j hj).1)
          clear O4
          have hsz := putL_sizes xs id s h.sizes hs
          have hlp := putL_len xs id s
          obtain ⟨a4, c4, rfl⟩ := O4'.slice
          have hg4 := fun w h => sGood_any a4 c4 (putL xs id s) w (by omega) h
          have hrow4 := (O4'.row hsz).2
          cases hgp : goodB (putL xs id s) with
          | false =>
            rw [hgp] at hg4
            have hG : putG xs id s = false := by unfold putG; rw [hgp, Bool.and_false]
            have hY : putP xs id s = [] := by unfold putP; rw [hG]; rfl
            clear hgp
            go_wp2_with (go_at_call 24; refine (hg4 _ hrow4).mono ?_; rintro e w5 ⟨rfl, hb5⟩)
            go_ret2
            refine ⟨_, by rw [hG]; rfl, ?_, bstep B4 (Nat.le_refl _) hb5⟩
            rw [hY]
            exact World.ownsRow_nil _ _ _ _
          | true =>
            rw [hgp] at hg4
            have hG : putG xs id s = true := by unfold putG; rw [hgp, hg, hin]; rfl
            have hY : putP xs id s = putL xs id s := by unfold putP; rw [hG]; rfl
            clear hgp
            go_wp2_with (go_at_call 24; refine (hg4 _ hrow4).mono ?_; rintro e w5 ⟨rfl, hb5⟩)
            go_ret2
            refine ⟨_, by rw [hG]; rfl, ?_, bstep B4 (Nat.le_refl _) hb5⟩
            rw [hY]
            exact O4'.below hb5
end Go.Proofs.Ytjbmkkoggocemaa
