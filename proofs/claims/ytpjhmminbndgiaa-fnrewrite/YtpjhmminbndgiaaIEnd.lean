/- To what a text comes, as the program makes it; its NormalOf, LastOf and JoinedBy. -/
import Derived.Test.YtpjhmminbndgiaaIOnce
namespace Go.Proofs.Ytpjhmminbndgiaa
open Go.RowKit
set_option linter.unusedVariables false
set_option linter.unusedSimpArgs false
set_option maxHeartbeats 4000000
set_option maxRecDepth 100000

theorem endOf_47 (a : Option Addr) (c : Nat) (xs : List RB) (s : ByteArray) (w : World) (hg : rulesB (Rs xs) = true) (hss : s.size ≤ 1000) (h : WRow w a xs) :
    Calls Try.prog 46 #[.slice a xs.length c, .string s, .func (.func 47) #[] #[]] w fun e w' => e = .returned (endV (normB false (Rs xs) 400 (Bt s))) ∧ Below w.heap.size w w' := by
  have hx8 := good_len hg
  have H := hid h
  clear h
  go_enter Try.func46, Try.ntmps46
  go_wp2
  go_loopw [1, 9] (fun t1 t9 wr => ∃ (n : Nat) (u : ByteArray), t9 = .int .i64 n ∧ t1 = .string u ∧ n ≤ 400 ∧ u.size ≤ 1000 ∧ Stands false (Rs xs) (Bt s) (Bt u) n ∧ Below w.heap.size w wr) (fun _ t9 _ => 401 - (intOf t9).toNat)
  case atStart => exact ⟨0, s, rfl, rfl, by omega, hss, stands_start _ _ _, Below.refl _ _⟩
  case round =>
    obtain ⟨W1, rfl⟩ : ∃ W1, W1 = wr := ⟨_, rfl⟩
    obtain ⟨n, u, rfl, rfl, hn, hu, hst, hB⟩ := hrel
    have HST := hid hst
    clear hst
    go_wp2_with fail
    refine (madeOf_any _ _ _ _ _).mono ?_
    rintro e w2 ⟨rfl, rfl⟩
    have hb2 := below2 W1 (.cells #[.slice a xs.length c] 60) (.cells #[.string u] 9)
    have k1 : ((W1.alloc (.cells #[.slice a xs.length c] 60)).alloc (.cells #[.string u] 9)).cell? ⟨W1.heap.size, 0, none⟩ = some (.slice a xs.length c) := by simp [go_sem]
    have k2 : ((W1.alloc (.cells #[.slice a xs.length c] 60)).alloc (.cells #[.string u] 9)).cell? ⟨W1.heap.size + 1, 0, none⟩ = some (.string u) := by simp [go_sem]
    have HP := hid (firstIn_any W1.heap.size (W1.heap.size + 1) xs a c u _ hg hu ((H.out.below hB).below hb2) k1 k2)
    have hB2 := bstep' hB hb2
    clear k1 k2 hb2
    cases hpk : (once (Rs xs) (Bt u)).head? with
    | none =>
      rw [hpk] at HP
      have h0 : once (Rs xs) (Bt u) = [] := by simpa using hpk
      have HE := hid (stands_end HST.out hn h0)
      clear hpk
      go_wp2_with fail
      refine HP.out.mono ?_
      rintro e w3 ⟨rfl, hb3⟩
      have hB3 := bstep' hB2 hb3
      simp only [oStr, Option.getD_none, Option.isSome_none]
      go_wp2
      refine bodyPost_ret (v := .tuple #[.string u, .int .i64 n, .bool true]) (by simp [results, Try.results46, go_sem]) rfl ⟨?_, hB3⟩
      rw [HE.out]
      simp [endV, Sb_Bt]
    | some z =>
      rw [hpk] at HP
      have hz : pickB false (once (Rs xs) (Bt u)) = some z := by simp only [pickB]; exact hpk
      have HS2 := hid (stands_step HST.out hn hz)
      have hzl : (Sb z).size ≤ 1000 := by
        have := pick_len hg hz
        rw [Bt_size, Bt_Sb]
        rw [Bt_size] at hu
        omega
      clear hpk hz
      by_cases h400 : n = 400
      · subst h400
        have HE := hid (HS2.out.2 (by omega))
        go_wp2_with fail
        refine HP.out.mono ?_
        rintro e w3 ⟨rfl, hb3⟩
        have hB3 := bstep' hB2 hb3
        simp only [oStr, Option.getD_some, Option.isSome_some]
        go_wp2
        refine bodyPost_ret (v := .tuple #[.string ⟨#[]⟩, .int .i64 0, .bool false]) (by simp [results, Try.results46, go_sem]) rfl ⟨?_, hB3⟩
        rw [HE.out]
        rfl
      · have hnn : ¬ (n : Int) = 400 := by omega
        go_wp2_with fail
        refine HP.out.mono ?_
        rintro e w3 ⟨rfl, hb3⟩
        have hB3 := bstep' hB2 hb3
        simp only [oStr, Option.getD_some, Option.isSome_some]
        go_wp2
        go_roundw
        case rel => exact ⟨n + 1, Sb z, by go_num, rfl, by omega, hzl, by rw [Bt_Sb]; exact HS2.out, hB3⟩
        case measure => simp [intOf]; omega
theorem endOf_50 (a : Option Addr) (c : Nat) (xs : List RB) (s : ByteArray) (w : World) (hg : rulesB (Rs xs) = true) (hss : s.size ≤ 1000) (h : WRow w a xs) :
    Calls Try.prog 46 #[.slice a xs.length c, .string s, .func (.func 50) #[] #[]] w fun e w' => e = .returned (endV (normB true (Rs xs) 400 (Bt s))) ∧ Below w.heap.size w w' := by
  have hx8 := good_len hg
  have H := hid h
  clear h
  go_enter Try.func46, Try.ntmps46
  go_wp2
  go_loopw [1, 9] (fun t1 t9 wr => ∃ (n : Nat) (u : ByteArray), t9 = .int .i64 n ∧ t1 = .string u ∧ n ≤ 400 ∧ u.size ≤ 1000 ∧ Stands true (Rs xs) (Bt s) (Bt u) n ∧ Below w.heap.size w wr) (fun _ t9 _ => 401 - (intOf t9).toNat)
  case atStart => exact ⟨0, s, rfl, rfl, by omega, hss, stands_start _ _ _, Below.refl _ _⟩
  case round =>
    obtain ⟨W1, rfl⟩ : ∃ W1, W1 = wr := ⟨_, rfl⟩
    obtain ⟨n, u, rfl, rfl, hn, hu, hst, hB⟩ := hrel
    have HST := hid hst
    clear hst
    go_wp2_with fail
    refine (madeOf_any _ _ _ _ _).mono ?_
    rintro e w2 ⟨rfl, rfl⟩
    have hb2 := below2 W1 (.cells #[.slice a xs.length c] 60) (.cells #[.string u] 9)
    have k1 : ((W1.alloc (.cells #[.slice a xs.length c] 60)).alloc (.cells #[.string u] 9)).cell? ⟨W1.heap.size, 0, none⟩ = some (.slice a xs.length c) := by simp [go_sem]
    have k2 : ((W1.alloc (.cells #[.slice a xs.length c] 60)).alloc (.cells #[.string u] 9)).cell? ⟨W1.heap.size + 1, 0, none⟩ = some (.string u) := by simp [go_sem]
    have HP := hid (lastIn_any W1.heap.size (W1.heap.size + 1) xs a c u _ hg hu ((H.out.below hB).below hb2) k1 k2)
    have hB2 := bstep' hB hb2
    clear k1 k2 hb2
    cases hpk : (once (Rs xs) (Bt u)).getLast? with
    | none =>
      rw [hpk] at HP
      have h0 : once (Rs xs) (Bt u) = [] := by simpa using hpk
      have HE := hid (stands_end HST.out hn h0)
      clear hpk
      go_wp2_with fail
      refine HP.out.mono ?_
      rintro e w3 ⟨rfl, hb3⟩
      have hB3 := bstep' hB2 hb3
      simp only [oStr, Option.getD_none, Option.isSome_none]
      go_wp2
      refine bodyPost_ret (v := .tuple #[.string u, .int .i64 n, .bool true]) (by simp [results, Try.results46, go_sem]) rfl ⟨?_, hB3⟩
      rw [HE.out]
      simp [endV, Sb_Bt]
    | some z =>
      rw [hpk] at HP
      have hz : pickB true (once (Rs xs) (Bt u)) = some z := by simp only [pickB]; exact hpk
      have HS2 := hid (stands_step HST.out hn hz)
      have hzl : (Sb z).size ≤ 1000 := by
        have := pick_len hg hz
        rw [Bt_size, Bt_Sb]
        rw [Bt_size] at hu
        omega
      clear hpk hz
      by_cases h400 : n = 400
      · subst h400
        have HE := hid (HS2.out.2 (by omega))
        go_wp2_with fail
        refine HP.out.mono ?_
        rintro e w3 ⟨rfl, hb3⟩
        have hB3 := bstep' hB2 hb3
        simp only [oStr, Option.getD_some, Option.isSome_some]
        go_wp2
        refine bodyPost_ret (v := .tuple #[.string ⟨#[]⟩, .int .i64 0, .bool false]) (by simp [results, Try.results46, go_sem]) rfl ⟨?_, hB3⟩
        rw [HE.out]
        rfl
      · have hnn : ¬ (n : Int) = 400 := by omega
        go_wp2_with fail
        refine HP.out.mono ?_
        rintro e w3 ⟨rfl, hb3⟩
        have hB3 := bstep' hB2 hb3
        simp only [oStr, Option.getD_some, Option.isSome_some]
        go_wp2
        go_roundw
        case rel => exact ⟨n + 1, Sb z, by go_num, rfl, by omega, hzl, by rw [Bt_Sb]; exact HS2.out, hB3⟩
        case measure => simp [intOf]; omega
theorem joined_any (a : Option Addr) (c : Nat) (xs : List RB) (s t : ByteArray) (w : World) (hg : rulesB (Rs xs) = true) (hss : s.size ≤ 1000) (hst : t.size ≤ 1000) (h : WRow w a xs) :
    Calls Try.prog 52 #[.slice a xs.length c, .string s, .string t] w fun e w' => e = .returned (.tuple #[.bool (joinV (normB false (Rs xs) 400 (Bt s)) (normB false (Rs xs) 400 (Bt t))).1, .bool (joinV (normB false (Rs xs) 400 (Bt s)) (normB false (Rs xs) 400 (Bt t))).2]) ∧ Below w.heap.size w w' := by
  cases h1 : normB false (Rs xs) 400 (Bt s) with
  | none =>
    cases h2 : normB false (Rs xs) 400 (Bt t) with
    | none =>
      go_enter Try.func52, Try.ntmps52
      go_wp2_with fail
      refine (endOf_47 a c xs s _ hg hss h).mono ?_
      rintro e w1 ⟨rfl, hb1⟩
      rw [h1]
      simp only [endV]
      go_wp2_with fail
      refine (endOf_47 a c xs t _ hg hst (h.below hb1)).mono ?_
      rintro e w2 ⟨rfl, hb2⟩
      have B2 := bstep' hb1 hb2
      rw [h2]
      simp only [endV]
      go_wp2
      go_ret2
      exact ⟨rfl, B2⟩
    | some y =>
      obtain ⟨y, m⟩ := y
      go_enter Try.func52, Try.ntmps52
      go_wp2_with fail
      refine (endOf_47 a c xs s _ hg hss h).mono ?_
      rintro e w1 ⟨rfl, hb1⟩
      rw [h1]
      simp only [endV]
      go_wp2_with fail
      refine (endOf_47 a c xs t _ hg hst (h.below hb1)).mono ?_
      rintro e w2 ⟨rfl, hb2⟩
      have B2 := bstep' hb1 hb2
      rw [h2]
      simp only [endV]
      go_wp2
      go_ret2
      exact ⟨rfl, B2⟩
  | some x =>
    obtain ⟨x, n⟩ := x
    cases h2 : normB false (Rs xs) 400 (Bt t) with
    | none =>
      go_enter Try.func52, Try.ntmps52
      go_wp2_with fail
      refine (endOf_47 a c xs s _ hg hss h).mono ?_
      rintro e w1 ⟨rfl, hb1⟩
      rw [h1]
      simp only [endV]
      go_wp2_with fail
      refine (endOf_47 a c xs t _ hg hst (h.below hb1)).mono ?_
      rintro e w2 ⟨rfl, hb2⟩
      have B2 := bstep' hb1 hb2
      rw [h2]
      simp only [endV]
      go_wp2
      go_ret2
      exact ⟨rfl, B2⟩
    | some y =>
      obtain ⟨y, m⟩ := y
      go_enter Try.func52, Try.ntmps52
      go_wp2_with fail
      refine (endOf_47 a c xs s _ hg hss h).mono ?_
      rintro e w1 ⟨rfl, hb1⟩
      rw [h1]
      simp only [endV]
      go_wp2_with fail
      refine (endOf_47 a c xs t _ hg hst (h.below hb1)).mono ?_
      rintro e w2 ⟨rfl, hb2⟩
      have B2 := bstep' hb1 hb2
      rw [h2]
      simp only [endV]
      go_wp2
      go_ret2
      refine ⟨?_, B2⟩
      simp only [joinV]
      have := eq_text (Sb x) (Sb y)
      rw [Bt_Sb, Bt_Sb] at this
      rw [← this] <;> rfl
theorem iNormalOf_any (a : Option Addr) (c : Nat) (xs : List RB) (s : ByteArray) (w : World) (hl : xs.length ≤ 9223372036854775807) (hs : ∀ x ∈ xs, Short x) (hz : s.size ≤ 9223372036854775807) (h : RRow w a xs) :
    Calls Try.prog 14 #[.slice a xs.length c, .string s] w fun e w' => e = .returned (endV (normOf false xs s)) ∧ Below w.heap.size w w' := by
  cases hp : (rulesB (Rs xs) && okB 40 (Bt s)) with
  | false =>
    have e : normOf false xs s = none := by simp only [normOf, hp]; rfl
    rw [e]
    go_enter Try.func14, Try.ntmps14
    go_wp2_with fail
    refine (rewritersOf_any a (some ⟨w.heap.size, 0, none⟩) c 1 xs [s] _ hl hs (h.below (below1 w _)) (by simp) (by simpa using hz) (one_text w s _ rfl) false [] (by rw [textsB_one, hp]) rfl).mono ?_
    rintro e w1 ⟨⟨ra, rc, rfl, hw1⟩, hb1⟩
    go_wp2
    refine bodyPost_ret (v := .tuple #[.string ⟨#[]⟩, .int .i64 0, .bool false]) (by simp [results, Try.results14, go_sem]) rfl ⟨rfl, bstep' (below1 w _) hb1⟩
  | true =>
    have e : normOf false xs s = normB false (Rs xs) 400 (Bt s) := by simp only [normOf, hp]; rfl
    rw [e]
    have hp2 := hp
    rw [Bool.and_eq_true] at hp2
    have hz40 := ok_size hp2.2
    cases hn : normB false (Rs xs) 400 (Bt s) with
    | none =>
      go_enter Try.func14, Try.ntmps14
      go_wp2_with fail
      refine (rewritersOf_any a (some ⟨w.heap.size, 0, none⟩) c 1 xs [s] _ hl hs (h.below (below1 w _)) (by simp) (by simpa using hz) (one_text w s _ rfl) true xs (by rw [textsB_one, hp]) rfl).mono ?_
      rintro e w1 ⟨⟨ra, rc, rfl, hw1⟩, hb1⟩
      have hB1 : Below w.heap.size w w1 := bstep' (below1 w _) hb1
      go_wp2_with fail
      refine (endOf_47 ra rc xs s _ hp2.1 (by omega) hw1).mono ?_
      rintro e w2 ⟨rfl, hb2⟩
      have B2 := bstep' hB1 hb2
      rw [hn]
      simp only [endV]
      go_wp2
      refine bodyPost_ret (v := .tuple #[.string ⟨#[]⟩, .int .i64 0, .bool false]) (by simp [results, Try.results14, go_sem]) rfl ⟨rfl, B2⟩
    | some y =>
      obtain ⟨t, n⟩ := y
      go_enter Try.func14, Try.ntmps14
      go_wp2_with fail
      refine (rewritersOf_any a (some ⟨w.heap.size, 0, none⟩) c 1 xs [s] _ hl hs (h.below (below1 w _)) (by simp) (by simpa using hz) (one_text w s _ rfl) true xs (by rw [textsB_one, hp]) rfl).mono ?_
      rintro e w1 ⟨⟨ra, rc, rfl, hw1⟩, hb1⟩
      have hB1 : Below w.heap.size w w1 := bstep' (below1 w _) hb1
      go_wp2_with fail
      refine (endOf_47 ra rc xs s _ hp2.1 (by omega) hw1).mono ?_
      rintro e w2 ⟨rfl, hb2⟩
      have B2 := bstep' hB1 hb2
      rw [hn]
      simp only [endV]
      go_wp2
      refine bodyPost_ret (v := .tuple #[.string (Sb t), .int .i64 n, .bool true]) (by simp [results, Try.results14, go_sem]) rfl ⟨rfl, B2⟩
theorem iLastOf_any (a : Option Addr) (c : Nat) (xs : List RB) (s : ByteArray) (w : World) (hl : xs.length ≤ 9223372036854775807) (hs : ∀ x ∈ xs, Short x) (hz : s.size ≤ 9223372036854775807) (h : RRow w a xs) :
    Calls Try.prog 16 #[.slice a xs.length c, .string s] w fun e w' => e = .returned (lastV (normOf true xs s)) ∧ Below w.heap.size w w' := by
  cases hp : (rulesB (Rs xs) && okB 40 (Bt s)) with
  | false =>
    have e : normOf true xs s = none := by simp only [normOf, hp]; rfl
    rw [e]
    go_enter Try.func16, Try.ntmps16
    go_wp2_with fail
    refine (rewritersOf_any a (some ⟨w.heap.size, 0, none⟩) c 1 xs [s] _ hl hs (h.below (below1 w _)) (by simp) (by simpa using hz) (one_text w s _ rfl) false [] (by rw [textsB_one, hp]) rfl).mono ?_
    rintro e w1 ⟨⟨ra, rc, rfl, hw1⟩, hb1⟩
    go_wp2
    go_ret2
    exact ⟨rfl, bstep' (below1 w _) hb1⟩
  | true =>
    have e : normOf true xs s = normB true (Rs xs) 400 (Bt s) := by simp only [normOf, hp]; rfl
    rw [e]
    have hp2 := hp
    rw [Bool.and_eq_true] at hp2
    have hz40 := ok_size hp2.2
    cases hn : normB true (Rs xs) 400 (Bt s) with
    | none =>
      go_enter Try.func16, Try.ntmps16
      go_wp2_with fail
      refine (rewritersOf_any a (some ⟨w.heap.size, 0, none⟩) c 1 xs [s] _ hl hs (h.below (below1 w _)) (by simp) (by simpa using hz) (one_text w s _ rfl) true xs (by rw [textsB_one, hp]) rfl).mono ?_
      rintro e w1 ⟨⟨ra, rc, rfl, hw1⟩, hb1⟩
      have hB1 : Below w.heap.size w w1 := bstep' (below1 w _) hb1
      go_wp2_with fail
      refine (endOf_50 ra rc xs s _ hp2.1 (by omega) hw1).mono ?_
      rintro e w2 ⟨rfl, hb2⟩
      have B2 := bstep' hB1 hb2
      rw [hn]
      simp only [endV]
      go_wp2
      go_ret2
      exact ⟨rfl, B2⟩
    | some y =>
      obtain ⟨t, n⟩ := y
      go_enter Try.func16, Try.ntmps16
      go_wp2_with fail
      refine (rewritersOf_any a (some ⟨w.heap.size, 0, none⟩) c 1 xs [s] _ hl hs (h.below (below1 w _)) (by simp) (by simpa using hz) (one_text w s _ rfl) true xs (by rw [textsB_one, hp]) rfl).mono ?_
      rintro e w1 ⟨⟨ra, rc, rfl, hw1⟩, hb1⟩
      have hB1 : Below w.heap.size w w1 := bstep' (below1 w _) hb1
      go_wp2_with fail
      refine (endOf_50 ra rc xs s _ hp2.1 (by omega) hw1).mono ?_
      rintro e w2 ⟨rfl, hb2⟩
      have B2 := bstep' hB1 hb2
      rw [hn]
      simp only [endV]
      go_wp2
      go_ret2
      exact ⟨rfl, B2⟩
theorem two_texts (w : World) (s t : ByteArray) (nb : Nat) (h : w.heap.size = nb) : TsRow (w.alloc (.cells #[.string s, .string t] 9)) (some ⟨nb, 0, none⟩) [s, t] := by
  subst h
  refine .inr ⟨_, 0, rfl, fun i x hi => ?_⟩
  match i, hi with
  | 0, hi => simp at hi; subst hi; simp [go_sem]
  | 1, hi => simp at hi; subst hi; simp [go_sem]
  | i + 2, hi => simp at hi
theorem textsB_two (s t : ByteArray) : textsB [s, t] = (okB 40 (Bt s) && okB 40 (Bt t)) := by simp [textsB]
theorem iJoinedBy_any (a : Option Addr) (c : Nat) (xs : List RB) (s t : ByteArray) (w : World) (hl : xs.length ≤ 9223372036854775807) (hs : ∀ x ∈ xs, Short x) (hz : s.size ≤ 9223372036854775807) (ht : t.size ≤ 9223372036854775807) (h : RRow w a xs) :
    Calls Try.prog 24 #[.slice a xs.length c, .string s, .string t] w fun e w' => e = .returned (.tuple #[.bool (joinV (normOf false xs s) (normOf false xs t)).1, .bool (joinV (normOf false xs s) (normOf false xs t)).2]) ∧ Below w.heap.size w w' := by
  have hts : ∀ x ∈ [s, t], x.size ≤ 9223372036854775807 := by
    intro x hx
    simp at hx
    rcases hx with rfl | rfl <;> assumption
  cases hp : (rulesB (Rs xs) && (okB 40 (Bt s) && okB 40 (Bt t))) with
  | false =>
    have e : joinV (normOf false xs s) (normOf false xs t) = (false, false) := by
      unfold normOf
      cases h1 : rulesB (Rs xs)
      · simp [joinV]
      · rw [h1, Bool.true_and] at hp
        cases h2 : okB 40 (Bt s)
        · simp [joinV]
        · rw [h2, Bool.true_and] at hp
          rw [hp]
          cases normB false (Rs xs) 400 (Bt s) <;> simp [joinV]
    rw [e]
    go_enter Try.func24, Try.ntmps24
    go_wp2_with fail
    refine (rewritersOf_any a (some ⟨w.heap.size, 0, none⟩) c 2 xs [s, t] _ hl hs (h.below (below1 w _)) (by simp) hts (two_texts w s t _ rfl) false [] (by rw [textsB_two, hp]) rfl).mono ?_
    rintro e w1 ⟨⟨ra, rc, rfl, hw1⟩, hb1⟩
    go_wp2
    go_ret2
    exact ⟨rfl, bstep' (below1 w _) hb1⟩
  | true =>
    have hp2 := hp
    rw [Bool.and_eq_true, Bool.and_eq_true] at hp2
    have h1 := ok_size hp2.2.1
    have h2 := ok_size hp2.2.2
    have e1 : normOf false xs s = normB false (Rs xs) 400 (Bt s) := by simp [normOf, hp2.1, hp2.2.1]
    have e2 : normOf false xs t = normB false (Rs xs) 400 (Bt t) := by simp [normOf, hp2.1, hp2.2.2]
    rw [e1, e2]
    have HJ := hid (fun (W : World) (ra : Option Addr) rc hw => joined_any ra rc xs s t W hp2.1 (by omega) (by omega) hw)
    generalize joinV (normB false (Rs xs) 400 (Bt s)) (normB false (Rs xs) 400 (Bt t)) = jv at HJ ⊢
    obtain ⟨j1, j2⟩ := jv
    go_enter Try.func24, Try.ntmps24
    go_wp2_with fail
    refine (rewritersOf_any a (some ⟨w.heap.size, 0, none⟩) c 2 xs [s, t] _ hl hs (h.below (below1 w _)) (by simp) hts (two_texts w s t _ rfl) true xs (by rw [textsB_two, hp]) rfl).mono ?_
    rintro e w1 ⟨⟨ra, rc, rfl, hw1⟩, hb1⟩
    have hB1 : Below w.heap.size w w1 := bstep' (below1 w _) hb1
    go_wp2_with fail
    refine (HJ.out _ ra rc hw1).mono ?_
    rintro e w2 ⟨rfl, hb2⟩
    go_wp2
    go_ret2
    exact ⟨rfl, bstep' hB1 hb2⟩
end Go.Proofs.Ytpjhmminbndgiaa
