/- What TargetOf of the program and of the model answer, at every code; the law on it. -/
import Derived.Test.YthkkhinmdlmhkaaDoorTarget1
namespace Go.Proofs.YthkkhinmdlmhkaaDoor
open Go.RowKit
set_option linter.unusedVariables false
set_option linter.unusedSimpArgs false
set_option maxRecDepth 100000

theorem tgt_bad {xs : List Stp} {at' dep : Int} (h : nestO xs = none) : targetO xs at' dep = none := by simp [targetO, h]
theorem tgt_out {xs : List Stp} {e d : List Int} {at' dep : Int} (h : nestO xs = some (e, d)) (hn : ¬ (0 ≤ at' ∧ at' < xs.length ∧ 0 ≤ dep ∧ dep ≤ d[at'.toNat]?.getD 0)) : targetO xs at' dep = none := by
  simp only [targetO, h, if_neg hn]
theorem tgt_in {xs : List Stp} {e d : List Int} {k q m : Nat} (h : nestO xs = some (e, d)) (hk : k < xs.length) (hd : d[k]? = some (m : Int)) (hq : q ≤ m) : targetO xs k q = some (specT xs e k k q) := by
  have hc : 0 ≤ (k : Int) ∧ (k : Int) < xs.length ∧ 0 ≤ (q : Int) ∧ (q : Int) ≤ d[(k : Int).toNat]?.getD 0 := by
    rw [Int.toNat_natCast, hd]; simp; omega
  rw [Int.toNat_natCast] at hc
  simp only [targetO, h, Int.toNat_natCast, if_pos hc]
theorem tgt_far {xs : List Stp} {e d : List Int} {k m : Nat} {dep : Int} (h : nestO xs = some (e, d)) (hd : d[k]? = some (m : Int)) (hq : ¬ dep ≤ m) : targetO xs k dep = none := by
  refine tgt_out h ?_
  rw [Int.toNat_natCast, hd]; simp; omega

/-- the ends and depths are small numbers -/
theorem ends_small {xs : List Stp} {e d : List Int} (h : nestO xs = some (e, d)) : (∀ v ∈ e, v ≤ 60 ∧ -60 ≤ v) := by
  have hl := nestO_length h
  have key : ∀ (r : List Stp) (o : List Spn) (e d : List Int) (o' : List Spn) (e' d' : List Int), runN r o e d = some (o', e', d') → okO o e.length → (∀ v ∈ e, -1 ≤ v ∧ v ≤ e.length) → (∀ v ∈ e', -1 ≤ v ∧ v ≤ e'.length) := by
    intro r
    induction r with
    | nil => intro o e d o' e' d' h hk hv; simp [runN] at h; obtain ⟨rfl, rfl, rfl⟩ := h; exact hv
    | cons x r ih =>
      intro o e d o' e' d' h hk hv
      cases hs : stp x o e with
      | none => rw [runN_snoc_none hs] at h; cases h
      | some p =>
        obtain ⟨o1, e1⟩ := p
        rw [runN_snoc_some hs] at h
        refine ih _ _ _ _ _ _ h (stp_ok hs hk) ?_
        have hl1 := stp_length hs
        rw [hl1]
        have base : ∀ z : Int, -1 ≤ z → z ≤ e.length → ∀ v ∈ e ++ [z], -1 ≤ v ∧ v ≤ ((e.length + 1 : Nat) : Int) := by
          intro z hz1 hz2 v hv'
          rcases List.mem_append.1 hv' with hv' | hv'
          · have := hv v hv'; omega
          · simp at hv'; omega
        cases stp_went hs with
        | push ho h8 => exact base _ (by omega) (by omega)
        | turn s ho h18 hl => exact base _ (by omega) (by omega)
        | plain ho h18 h19 => exact base _ (by omega) (by omega)
        | shut p s t ho h19 hl =>
          have hz := (hk.2 _ (List.mem_of_getLast? hl)).1
          simp only [] at hz
          intro v hv'
          have b0 := base (s : Int) (by omega) (by omega)
          unfold putE at hv'
          split at hv'
          · rcases List.mem_or_eq_of_mem_set hv' with h1 | h1
            · exact b0 v h1
            · omega
          · rcases List.mem_or_eq_of_mem_set hv' with h1 | h1
            · rcases List.mem_or_eq_of_mem_set h1 with h2 | h2
              · exact b0 v h2
              · omega
            · omega
  have := key xs [] [] [] [] e d (nestO_run h) (okO_nil _) (by simp)
  intro v hv
  have := this v hv
  omega
theorem deps_small {xs : List Stp} {e d : List Int} (h : nestO xs = some (e, d)) : (∀ v ∈ d, 0 ≤ v ∧ v ≤ 8) := by
  have key : ∀ (r : List Stp) (o : List Spn) (e d : List Int) (o' : List Spn) (e' d' : List Int), runN r o e d = some (o', e', d') → o.length ≤ 8 → (∀ v ∈ d, 0 ≤ v ∧ v ≤ 8) → (∀ v ∈ d', 0 ≤ v ∧ v ≤ 8) := by
    intro r
    induction r with
    | nil => intro o e d o' e' d' h hk hv; simp [runN] at h; obtain ⟨rfl, rfl, rfl⟩ := h; exact hv
    | cons x r ih =>
      intro o e d o' e' d' h hk hv
      cases hs : stp x o e with
      | none => rw [runN_snoc_none hs] at h; cases h
      | some p =>
        obtain ⟨o1, e1⟩ := p
        rw [runN_snoc_some hs] at h
        refine ih _ _ _ _ _ _ h (stp_le8 hs hk) ?_
        intro v hv'
        rcases List.mem_append.1 hv' with hv' | hv'
        · exact hv v hv'
        · simp at hv'; omega
  exact key xs [] [] [] [] e d (nestO_run h) (by simp) (by simp)
theorem slice_form {w : World} {B n : Nat} {va : Option Addr} {vl vc : Nat} {zs : List Int} (h : w.ownsRow B 3 1 (.slice va vl vc) n (ints zs)) (hn : 0 < n) : vl = n ∧ ∃ g, va = some ⟨g, 0, none⟩ ∧ g < w.heap.size := by
  have hlt := h.lt
  rcases h.2 with ⟨_, h0⟩ | ⟨g, cap, cur, he, hB, hg, _⟩
  · omega
  · injection he with e1 e2 e3
    exact ⟨e2, g, e1, (Array.getElem?_eq_some_iff.1 hg).1⟩

set_option maxHeartbeats 4000000 in
/-- the program's TargetOf -/
theorem iTarget_any (a : Option Addr) (c : Nat) (xs : List Stp) (at' dep : Int) (w : World) (hl : xs.length ≤ 1048576) (h : TRow w a xs) (hT : Tab w) :
    Calls Tryd.prog 109 #[.slice a xs.length c, .int .i64 at', .int .i64 dep] w fun e w' => e = .returned (tgtV (targetO xs at' dep)) ∧ Below w.heap.size w w' := by
  have H : Hid (TRow w a xs ∧ Tab w) := ⟨h, hT⟩
  clear h hT
  cases hn : nestO xs with
  | none =>
    rw [tgt_bad hn]
    have HN : Hid (nestO xs = none) := hn
    clear hn
    go_enter Tryd.func109, Tryd.ntmps109
    go_wp2_with fail
    refine (nest_all a c xs _ hl H.out.1 H.out.2).mono ?_
    rintro e w1 ⟨⟨oa, ol, oc, ea, el, ec, da, dl, dc, b, rfl, hm⟩, hb⟩
    rw [HN.out] at hm
    obtain rfl : b = false := hm
    go_wp2
    go_ret2
    exact ⟨rfl, hb.alloc hb.size _⟩
  | some pr =>
    obtain ⟨en, d⟩ := pr
    have HN : Hid (nestO xs = some (en, d)) := hn
    have hlen := nestO_length hn
    have h60 := hlen.2.2
    by_cases hin : 0 ≤ at' ∧ at' < xs.length ∧ 0 ≤ dep
    · obtain ⟨ha0, ha1, hd0⟩ := hin
      obtain ⟨k, rfl⟩ := Int.eq_ofNat_of_zero_le ha0
      have hk : k < xs.length := by omega
      obtain ⟨m, hdm, hsm, hst⟩ := target hn k hk
      have hm8 := deps_small hn _ (List.mem_of_getElem? hdm)
      obtain ⟨b, off, rfl, hat⟩ := H.out.1.at (by intro h0; rw [h0] at hk; simp at hk)
      have HA : Hid (_) := hat
      have HD : Hid (d[k]? = some (m : Int) ∧ specT xs en k k m = xs.length ∧ ∀ dep, dep < m → ∃ s, s < k ∧ d[s]? = some ((m : Int) - 1 - dep) ∧ (∀ j, s < j → j < k → ∃ v, d[j]? = some v ∧ v ≠ (m : Int) - 1 - dep) ∧ specT xs en k k dep = ansT xs en s) := ⟨hdm, hsm, hst⟩
      have hmm : m ≤ 8 := by omega
      have HLE : Hid (en.length = xs.length ∧ d.length = xs.length) := ⟨hlen.1, hlen.2.1⟩
      have HSM : Hid (_) := ends_small hn
      clear hn hlen hdm hsm hst hat hm8
      have HX : Hid (∀ w1 : World, Below w.heap.size w w1 → ∀ o oo, w1.ownsRow w.heap.size 3 1 oo xs.length (ints d) → ∀ g, oo.ownBlock = some g → ∀ j v, d[j]? = some v → (w1.alloc o).cell? ⟨g, j, none⟩ = some (.int .i64 v)) := by
        intro w1 hb o oo ho g hg j v hv
        exact below_cell _ (rowT_at ho hg (ints_at hv))
      by_cases hfar : dep ≤ m
      · obtain ⟨q, rfl⟩ := Int.eq_ofNat_of_zero_le hd0
        have hqm : q ≤ m := by omega
        rw [tgt_in HN.out hk HD.out.1 hqm]
        by_cases hqe : q = m
        · subst hqe
          rw [HD.out.2.1]
          go_enter Tryd.func109, Tryd.ntmps109
          go_wp2_with fail
          refine (nest_all (some ⟨b, off, none⟩) c xs _ hl H.out.1 H.out.2).mono ?_
          rintro e w1 ⟨⟨oa, ol, oc, ea, el, ec, da, dl, dc, bb, rfl, hm⟩, hb⟩
          rw [HN.out] at hm
          obtain ⟨hbt, h1, h2, h3⟩ := hm
          obtain rfl : bb = true := hbt
          obtain ⟨rfl, gd, rfl, hgd⟩ := slice_form h2 (by omega)
          have x1 := HX.out w1 hb (.cells #[.slice oa ol oc, .slice ea el ec, .slice (some ⟨gd, 0, none⟩) xs.length dc] 96) _ h2 gd rfl k _ HD.out.1
          clear h1 h2 h3
          go_wp2
          go_ret2
          exact ⟨rfl, hb.alloc hb.size _⟩
        · have hql : q < m := by omega
          obtain ⟨s, hs, hds, hdj, hans⟩ := HD.out.2.2 q hql
          rw [hans]
          have HDS : Hid (d[s]? = some ((m : Int) - 1 - q) ∧ ∀ j, s < j → j < k → ∃ v, d[j]? = some v ∧ v ≠ (m : Int) - 1 - q) := ⟨hds, hdj⟩
          clear hds hdj hans
          obtain ⟨vs, hvs⟩ : ∃ v, en[s]? = some v := ⟨_, List.getElem?_eq_getElem (by have := HLE.out.1; omega)⟩
          have hvb := HSM.out vs (List.mem_of_getElem? hvs)
          obtain ⟨y, hy⟩ : ∃ y, xs[s]? = some y := ⟨_, List.getElem?_eq_getElem (by omega)⟩
          obtain ⟨yp, yn, yt⟩ := y
          have HAN : Hid (ansT xs en s = if yp = 16 then (s : Int) + 1 else vs + 1) := by show _ = _; unfold ansT; rw [hy, hvs]; rfl
          have HVS : Hid (en[s]? = some vs ∧ xs[s]? = some (yp, yn, yt)) := ⟨hvs, hy⟩
          clear hvs hy
          by_cases h16 : yp = 16
          all_goals
            go_enter Tryd.func109, Tryd.ntmps109
            go_wp2_with fail
            refine (nest_all (some ⟨b, off, none⟩) c xs _ hl H.out.1 H.out.2).mono ?_
            rintro e w1 ⟨⟨oa, ol, oc, ea, el, ec, da, dl, dc, bb, rfl, hm⟩, hb⟩
            rw [HN.out] at hm
            obtain ⟨hbt, h1, h2, h3⟩ := hm
            obtain rfl : bb = true := hbt
            obtain ⟨rfl, gd, rfl, hgd⟩ := slice_form h2 (by omega)
            obtain ⟨rfl, ge, rfl, hge⟩ := slice_form h1 (by omega)
            have hb1 : Below w.heap.size w (w1.alloc (.cells #[.slice oa ol oc, .slice (some ⟨ge, 0, none⟩) xs.length ec, .slice (some ⟨gd, 0, none⟩) xs.length dc] 96)) := hb.alloc hb.size _
            have x1 := HX.out w1 hb (.cells #[.slice oa ol oc, .slice (some ⟨ge, 0, none⟩) xs.length ec, .slice (some ⟨gd, 0, none⟩) xs.length dc] 96) _ h2 gd rfl k _ HD.out.1
            have x2 : (w1.alloc (.cells #[.slice oa ol oc, .slice (some ⟨ge, 0, none⟩) xs.length ec, .slice (some ⟨gd, 0, none⟩) xs.length dc] 96)).cell? ⟨ge, s, none⟩ = some (.int .i64 vs) := below_cell _ (rowT_at h1 rfl (ints_at HVS.out.1))
            have HS : Hid (Calls Tryd.prog 110 #[.pointer (some ⟨w1.heap.size, 0, none⟩), .int .i64 k, .int .i64 ((m : Int) - 1 - q)] (w1.alloc (.cells #[.slice oa ol oc, .slice (some ⟨ge, 0, none⟩) xs.length ec, .slice (some ⟨gd, 0, none⟩) xs.length dc] 96)) fun e w' => e = .returned (.int .i64 s) ∧ w' = (w1.alloc (.cells #[.slice oa ol oc, .slice (some ⟨ge, 0, none⟩) xs.length ec, .slice (some ⟨gd, 0, none⟩) xs.length dc] 96))) :=
              startOf_any w1.heap.size gd xs.length dc m s k _ _ (by simp [go_sem]) h60 (by omega) hs (HX.out w1 hb _ _ h2 gd rfl s _ HDS.out.1) (fun j hj1 hj2 => by obtain ⟨v, hv, hne⟩ := HDS.out.2 j hj1 hj2; exact ⟨v, HX.out w1 hb _ _ h2 gd rfl j v hv, hne⟩)
            obtain ⟨p6, n6, t6, ta6, tc6, d1, d2, d3, hbw6, hs6, HR6, HX6⟩ := HA.out _ hb1 s (by omega)
            obtain rfl : p6 = yp := by have := HX6.out.symm.trans HVS.out.2; injection this with this; injection this
            have hsI : (s : Int) < xs.length := by omega
            clear h1 h2 h3 d2 d3 HR6
            go_wp2_with (go_at_call 110; refine HS.out.mono ?_; rintro e' w' ⟨rfl, hw'⟩; subst w')
            go_ret2
            refine ⟨?_, hb1⟩
            have := HAN.out
            first
              | (rw [this, if_pos (by assumption)]; rfl)
              | (rw [this, if_neg (by assumption)]; rfl)
              | (rw [this]; simp_all [tgtV])
      · rw [tgt_far HN.out HD.out.1 hfar]
        go_enter Tryd.func109, Tryd.ntmps109
        go_wp2_with fail
        refine (nest_all (some ⟨b, off, none⟩) c xs _ hl H.out.1 H.out.2).mono ?_
        rintro e w1 ⟨⟨oa, ol, oc, ea, el, ec, da, dl, dc, bb, rfl, hm⟩, hb⟩
        rw [HN.out] at hm
        obtain ⟨hbt, h1, h2, h3⟩ := hm
        obtain rfl : bb = true := hbt
        obtain ⟨rfl, gd, rfl, hgd⟩ := slice_form h2 (by omega)
        have x1 := HX.out w1 hb (.cells #[.slice oa ol oc, .slice ea el ec, .slice (some ⟨gd, 0, none⟩) xs.length dc] 96) _ h2 gd rfl k _ HD.out.1
        clear h1 h2 h3
        go_wp2
        go_ret2
        exact ⟨rfl, hb.alloc hb.size _⟩
    · rw [tgt_out hn (fun hc => hin ⟨hc.1, hc.2.1, hc.2.2.1⟩)]
      clear hn hlen
      by_cases ha0 : 0 ≤ at'
      · by_cases ha1 : at' < xs.length
        · have hd0 : ¬ 0 ≤ dep := fun h0 => hin ⟨ha0, ha1, h0⟩
          clear hin
          go_enter Tryd.func109, Tryd.ntmps109
          go_wp2_with fail
          refine (nest_all a c xs _ hl H.out.1 H.out.2).mono ?_
          rintro e w1 ⟨⟨oa, ol, oc, ea, el, ec, da, dl, dc, bb, rfl, hm⟩, hb⟩
          rw [HN.out] at hm
          obtain rfl : bb = true := hm.1
          clear hm
          go_wp2
          go_ret2
          exact ⟨rfl, hb.alloc hb.size _⟩
        · clear hin
          go_enter Tryd.func109, Tryd.ntmps109
          go_wp2_with fail
          refine (nest_all a c xs _ hl H.out.1 H.out.2).mono ?_
          rintro e w1 ⟨⟨oa, ol, oc, ea, el, ec, da, dl, dc, bb, rfl, hm⟩, hb⟩
          rw [HN.out] at hm
          obtain rfl : bb = true := hm.1
          clear hm
          go_wp2
          go_ret2
          exact ⟨rfl, hb.alloc hb.size _⟩
      · clear hin
        go_enter Tryd.func109, Tryd.ntmps109
        go_wp2_with fail
        refine (nest_all a c xs _ hl H.out.1 H.out.2).mono ?_
        rintro e w1 ⟨⟨oa, ol, oc, ea, el, ec, da, dl, dc, bb, rfl, hm⟩, hb⟩
        rw [HN.out] at hm
        obtain rfl : bb = true := hm.1
        clear hm
        go_wp2
        go_ret2
        exact ⟨rfl, hb.alloc hb.size _⟩

end Go.Proofs.YthkkhinmdlmhkaaDoor
