/- The program's code of flat steps. -/
import Derived.Test.YtiaiaejijicddaaPureI
import Derived.Test.YtiaiaejijicddaaIuse
import Derived.Test.YtiaiaejijicddaaSLow
namespace Go.Proofs.Ytiaiaejijicddaa
open Go.RowKit
set_option linter.unusedVariables false
set_option linter.unusedSimpArgs false
set_option maxRecDepth 100000

theorem deedCode_1 (t n : Int) (w : World) :
    Calls Try.prog 59 #[.iface 92 (.agg #[.int .i64 t, .int .i64 n])] w fun e w' => ∃ a, e = .returned (.slice a 2 2) ∧ News w' a 2 3 [.int .i64 1, .int .i64 n, .slice none 0 0, .int .i64 3, .int .i64 t, .slice none 0 0] ∧ Below w.heap.size w w' := by
  have q1 := fun v w => ta_131_131 v w
  go_enter Try.func59, Try.ntmps59
  go_wp2
  go_ret
  exact ⟨_, rfl, News.fresh (w.alloc (.cells #[.int .i64 t, .int .i64 n] 92)) [.int .i64 1, .int .i64 n, .slice none 0 0, .int .i64 3, .int .i64 t, .slice none 0 0] 58 (w.heap.size + 1) 2 3 (by simp) rfl (by simp [Value.oneCell']), below2 w _ _⟩
theorem deedCode_2 (t x : Int) (w : World) :
    Calls Try.prog 59 #[.iface 94 (.agg #[.int .i64 t, .int .i64 x])] w fun e w' => ∃ a, e = .returned (.slice a 2 2) ∧ News w' a 2 3 [.int .i64 2, .int .i64 x, .slice none 0 0, .int .i64 3, .int .i64 t, .slice none 0 0] ∧ Below w.heap.size w w' := by
  have q1 := fun v w => ta_133_131 v w
  have q2 := fun v w => ta_133_133 v w
  go_enter Try.func59, Try.ntmps59
  go_wp2
  go_ret
  exact ⟨_, rfl, News.fresh (w.alloc (.cells #[.int .i64 t, .int .i64 x] 94)) [.int .i64 2, .int .i64 x, .slice none 0 0, .int .i64 3, .int .i64 t, .slice none 0 0] 58 (w.heap.size + 1) 2 3 (by simp) rfl (by simp [Value.oneCell']), below2 w _ _⟩
theorem deedCode_3 (d t x y : Int) (w : World) :
    Calls Try.prog 59 #[.iface 96 (.agg #[.int .i64 d, .int .i64 t, .int .i64 x, .int .i64 y])] w fun e w' => ∃ a, e = .returned (.slice a 4 4) ∧ News w' a 4 3 [.int .i64 2, .int .i64 x, .slice none 0 0, .int .i64 2, .int .i64 y, .slice none 0 0, .int .i64 d, .int .i64 0, .slice none 0 0, .int .i64 3, .int .i64 t, .slice none 0 0] ∧ Below w.heap.size w w' := by
  have q1 := fun v w => ta_135_131 v w
  have q2 := fun v w => ta_135_133 v w
  have q3 := fun v w => ta_135_135 v w
  go_enter Try.func59, Try.ntmps59
  go_wp2
  go_ret
  exact ⟨_, rfl, News.fresh (w.alloc (.cells #[.int .i64 d, .int .i64 t, .int .i64 x, .int .i64 y] 96)) [.int .i64 2, .int .i64 x, .slice none 0 0, .int .i64 2, .int .i64 y, .slice none 0 0, .int .i64 d, .int .i64 0, .slice none 0 0, .int .i64 3, .int .i64 t, .slice none 0 0] 58 (w.heap.size + 1) 4 3 (by simp) rfl (by simp [Value.oneCell']), below2 w _ _⟩
theorem deedCode_4 (t x : Int) (w : World) :
    Calls Try.prog 59 #[.iface 97 (.agg #[.int .i64 t, .int .i64 x])] w fun e w' => ∃ a, e = .returned (.slice a 3 3) ∧ News w' a 3 3 [.int .i64 2, .int .i64 x, .slice none 0 0, .int .i64 10, .int .i64 0, .slice none 0 0, .int .i64 3, .int .i64 t, .slice none 0 0] ∧ Below w.heap.size w w' := by
  have q1 := fun v w => ta_136_131 v w
  have q2 := fun v w => ta_136_133 v w
  have q3 := fun v w => ta_136_135 v w
  have q4 := fun v w => ta_136_136 v w
  go_enter Try.func59, Try.ntmps59
  go_wp2
  go_ret
  exact ⟨_, rfl, News.fresh (w.alloc (.cells #[.int .i64 t, .int .i64 x] 97)) [.int .i64 2, .int .i64 x, .slice none 0 0, .int .i64 10, .int .i64 0, .slice none 0 0, .int .i64 3, .int .i64 t, .slice none 0 0] 58 (w.heap.size + 1) 3 3 (by simp) rfl (by simp [Value.oneCell']), below2 w _ _⟩
theorem deedCode_5 (x y : Int) (w : World) :
    Calls Try.prog 59 #[.iface 99 (.agg #[.int .i64 x, .int .i64 y])] w fun e w' => ∃ a, e = .returned (.slice a 3 3) ∧ News w' a 3 3 [.int .i64 2, .int .i64 x, .slice none 0 0, .int .i64 2, .int .i64 y, .slice none 0 0, .int .i64 11, .int .i64 0, .slice none 0 0] ∧ Below w.heap.size w w' := by
  have q1 := fun v w => ta_138_131 v w
  have q2 := fun v w => ta_138_133 v w
  have q3 := fun v w => ta_138_135 v w
  have q4 := fun v w => ta_138_136 v w
  have q5 := fun v w => ta_138_138 v w
  go_enter Try.func59, Try.ntmps59
  go_wp2
  go_ret
  exact ⟨_, rfl, News.fresh (w.alloc (.cells #[.int .i64 x, .int .i64 y] 99)) [.int .i64 2, .int .i64 x, .slice none 0 0, .int .i64 2, .int .i64 y, .slice none 0 0, .int .i64 11, .int .i64 0, .slice none 0 0] 58 (w.heap.size + 1) 3 3 (by simp) rfl (by simp [Value.oneCell']), below2 w _ _⟩
theorem deedCode_6 (x : Int) (w : World) :
    Calls Try.prog 59 #[.iface 101 (.agg #[.int .i64 x])] w fun e w' => ∃ a, e = .returned (.slice a 2 2) ∧ News w' a 2 3 [.int .i64 2, .int .i64 x, .slice none 0 0, .int .i64 12, .int .i64 0, .slice none 0 0] ∧ Below w.heap.size w w' := by
  have q1 := fun v w => ta_140_131 v w
  have q2 := fun v w => ta_140_133 v w
  have q3 := fun v w => ta_140_135 v w
  have q4 := fun v w => ta_140_136 v w
  have q5 := fun v w => ta_140_138 v w
  have q6 := fun v w => ta_140_140 v w
  go_enter Try.func59, Try.ntmps59
  go_wp2
  go_ret
  exact ⟨_, rfl, News.fresh (w.alloc (.cells #[.int .i64 x] 101)) [.int .i64 2, .int .i64 x, .slice none 0 0, .int .i64 12, .int .i64 0, .slice none 0 0] 58 (w.heap.size + 1) 2 3 (by simp) rfl (by simp [Value.oneCell']), below2 w _ _⟩
/-- the program's code of one deed -/
theorem deedCode_any (x : Flt) (w : World) (hx : 1 ≤ x.op ∧ x.op ≤ 6) :
    Calls Try.prog 59 #[deedV x] w fun e w' => ∃ a, e = .returned (.slice a (codeF x).length (codeF x).length) ∧ News w' a (codeF x).length 3 (flatN (codeF x)) ∧ Below w.heap.size w w' := by
  obtain ⟨p, d, t, a, b, n⟩ := x
  by_cases h1 : p = 1
  · subst h1; rw [show codeF ⟨1, d, t, a, b, n⟩ = [(1, n), (3, t)] by simp [codeF, bodyF, setsB, inB]]; exact deedCode_1 t n w
  by_cases h2 : p = 2
  · subst h2; rw [show codeF ⟨2, d, t, a, b, n⟩ = [(2, a), (3, t)] by simp [codeF, bodyF, setsB, inB]]; exact deedCode_2 t a w
  by_cases h3 : p = 3
  · subst h3; rw [show codeF ⟨3, d, t, a, b, n⟩ = [(2, a), (2, b), (d, 0), (3, t)] by simp [codeF, bodyF, setsB, inB]]; exact deedCode_3 d t a b w
  by_cases h4 : p = 4
  · subst h4; rw [show codeF ⟨4, d, t, a, b, n⟩ = [(2, a), (10, 0), (3, t)] by simp [codeF, bodyF, setsB, inB]]; exact deedCode_4 t a w
  by_cases h5 : p = 5
  · subst h5; rw [show codeF ⟨5, d, t, a, b, n⟩ = [(2, a), (2, b), (11, 0)] by simp [codeF, bodyF, setsB, inB]]; exact deedCode_5 a b w
  by_cases h6 : p = 6
  · subst h6; rw [show codeF ⟨6, d, t, a, b, n⟩ = [(2, a), (12, 0)] by simp [codeF, bodyF, setsB, inB]]; exact deedCode_6 a w
  exfalso
  have h0 : 1 ≤ p ∧ p ≤ 6 := hx
  omega
theorem isNone_any (p d t x y n : Int) (w : World) :
    Calls Try.prog 30 #[.agg #[.int .i64 p, .int .i64 d, .int .i64 t, .int .i64 x, .int .i64 y, .int .i64 n]] w fun e w' => e = .returned (.bool (!goodFm 8 ⟨p, d, t, x, y, n⟩)) ∧ Below w.heap.size w w' := by
  go_enter Try.func30, Try.ntmps30
  go_wp2_with fail
  refine (goodFlat_any 8 p d t x y n _).mono ?_
  rintro e w1 ⟨rfl, hb1⟩
  go_wp2
  go_ret
  exact ⟨rfl, bstep' (below1 w _) hb1⟩
set_option maxHeartbeats 2000000 in
/-- the library's IndexFunc over flat steps, with that closure -/
theorem indexN_any (a : Option Addr) (c : Nat) (xs : List Flt) (w : World) (hl : xs.length ≤ 9223372036854775807) (h : FRow w a xs) :
    Calls Try.prog 58 #[.slice a xs.length c, .func (.func 30) #[] #[]] w fun e w' => (∃ r : Int, e = .returned (.int .i64 r) ∧ decide (0 ≤ r) = !allFm 8 xs) ∧ Below w.heap.size w w' := by
  have H := hid h
  clear h
  go_enter Try.func58, Try.ntmps58
  go_wp2
  go_loopw [8] (fun t8 wr => ∃ (k : Nat), t8 = .int .i64 k ∧ k ≤ xs.length ∧ (∀ (j : Nat) v, j < k → xs[j]? = some v → goodFm 8 v = true) ∧ Below w.heap.size w wr) (fun t8 _ => xs.length - (intOf t8).toNat)
  case atStart => exact ⟨0, rfl, by omega, by intro j x hj; omega, Below.refl _ _⟩
  case round =>
    obtain ⟨k, rfl, hk, hbf, hB⟩ := hrel
    have HF := hid hbf
    clear hbf
    by_cases hlt : k < xs.length
    · have hx : xs ≠ [] := by intro e; subst e; simp at hlt
      obtain ⟨b, off, rfl, hbw, hat⟩ := H.out.at hx
      obtain ⟨p, d, t, x, y, n, c0, c1, c2, c3, c4, c5, HX⟩ := hat wr hB k hlt
      clear hat hx
      have HC := hid (isNone_any p d t x y n wr)
      go_wp2_with fail
      refine HC.out.mono ?_
      rintro e w1 ⟨rfl, hb1⟩
      cases hv : goodFm 8 ⟨p, d, t, x, y, n⟩ with
      | false =>
        have HI : Hid (allFm 8 xs = false) := all_bad HX.out hv
        clear hv
        go_wp2
        go_ret
        exact ⟨⟨_, rfl, by rw [HI.out]; simp⟩, bstep' hB hb1⟩
      | true =>
        have HI : Hid (∀ (j : Nat) v, j < k + 1 → xs[j]? = some v → goodFm 8 v = true) := low_snoc HF.out HX.out hv
        clear hv
        go_wp2
        go_roundw
        case rel => exact ⟨k + 1, by go_num, by omega, HI.out, bstep' hB hb1⟩
        case measure => simp [intOf]; omega
    · obtain rfl : k = xs.length := by omega
      have HI : Hid (allFm 8 xs = true) := all_of (fun j v hv => HF.out j v (List.getElem?_eq_some_iff.1 hv).1 hv)
      go_wp2
      go_ret
      exact ⟨⟨_, rfl, by rw [HI.out]; rfl⟩, hB⟩
theorem containsN_any (a : Option Addr) (c : Nat) (xs : List Flt) (w : World) (hl : xs.length ≤ 9223372036854775807) (h : FRow w a xs) :
    Calls Try.prog 32 #[.slice a xs.length c, .func (.func 30) #[] #[]] w fun e w' => e = .returned (.bool (!allFm 8 xs)) ∧ Below w.heap.size w w' := by
  have H := hid h
  clear h
  go_enter Try.func32, Try.ntmps32
  go_wp2_with fail
  refine (indexN_any a c xs _ hl H.out).mono ?_
  rintro e w1 ⟨⟨r, rfl, hr⟩, hb1⟩
  have HR := hid hr
  clear hr
  go_wp2
  go_ret
  exact ⟨ret_bool HR.out, hb1⟩
set_option maxHeartbeats 2000000 in
theorem flatCode_any (a : Option Addr) (c : Nat) (xs : List Flt) (w : World) (hl : xs.length ≤ 60) (hg : allFm 8 xs = true) (h : FRow w a xs) :
    Calls Try.prog 33 #[.slice a xs.length c] w fun e w' => ∃ va vc, e = .returned (.slice va (codeL xs).length vc) ∧ w'.ownsRow w.heap.size 58 3 (.slice va (codeL xs).length vc) (codeL xs).length (flatN (codeL xs)) ∧ Below w.heap.size w w' := by
  have H := hid h
  have HG := hid hg
  clear h hg
  go_enter Try.func33, Try.ntmps33
  go_wp2
  go_loopw [3, 8] (fun t3 t8 wr => ∃ (k : Nat) (va : Option Addr) (vc : Nat), t8 = .int .i64 k ∧ k ≤ xs.length ∧ t3 = .slice va (codeL (xs.take k)).length vc ∧ Hid (Sep wr w.heap.size ([] ++ ⟨58, 3, .slice va (codeL (xs.take k)).length vc, (codeL (xs.take k)).length, flatN (codeL (xs.take k))⟩ :: [])) ∧ Hid (Below w.heap.size w wr)) (fun _ t8 _ => xs.length - (intOf t8).toNat)
  case atStart => exact ⟨0, none, 0, rfl, by omega, rfl, sep_one (World.ownsRow_nil _ _ _ _), Below.refl _ _⟩
  case round =>
    obtain ⟨k, va, vc, rfl, hk, rfl, HS, HB⟩ := hrel
    by_cases hlt : k < xs.length
    · obtain ⟨b, off, rfl, hbw, hat⟩ := H.out.at (by intro e; subst e; simp at hlt)
      obtain ⟨p, d, t, x, y, n, f0, f1, f2, f3, f4, f5, HX⟩ := hat wr HB.out k hlt
      clear hat
      have HC : Hid (_) := codeL_snoc HX.out
      obtain ⟨acc, hacc⟩ : ∃ l, codeL (xs.take k) = l := ⟨_, rfl⟩
      have hal : acc.length ≤ 240 := by rw [← hacc]; have := codeL_len (xs.take k); rw [List.length_take] at this; omega
      rw [hacc] at HS HC ⊢
      clear hacc
      have hop := good_op (all_at HG.out HX.out)
      obtain ⟨dv, hdv⟩ : ∃ v, deedV ⟨p, d, t, x, y, n⟩ = v := ⟨_, rfl⟩
      have HD : Hid (∀ W, Calls Try.prog 42 #[.agg #[.int .i64 p, .int .i64 d, .int .i64 t, .int .i64 x, .int .i64 y, .int .i64 n]] W fun e w' => e = .returned dv ∧ Below W.heap.size W w') := fun W => by
        have := deed_any ⟨p, d, t, x, y, n⟩ W
        rw [hdv] at this
        exact this
      obtain ⟨cf, hcf⟩ : ∃ l, codeF ⟨p, d, t, x, y, n⟩ = l := ⟨_, rfl⟩
      have hcl : cf.length ≤ 4 := by rw [← hcf]; exact codeF_len _
      have HU : Hid (∀ W, Calls Try.prog 59 #[dv] W fun e w' => ∃ a, e = .returned (.slice a cf.length cf.length) ∧ News w' a cf.length 3 (flatN cf) ∧ Below W.heap.size W w') := fun W => by
        have := deedCode_any ⟨p, d, t, x, y, n⟩ W hop
        rw [hdv, hcf] at this
        exact this
      rw [hcf] at HC
      have bF := below1 wr (.cells #[.int .i64 p, .int .i64 d, .int .i64 t, .int .i64 x, .int .i64 y, .int .i64 n] 49)
      have HBF := hid (bstep' HB.out bF)
      have HSF := hid (Sep.below HS.out bF)
      clear hdv hcf bF HX hop
      go_wp2_with (first | (go_at_call 42; refine (HD.out _).mono ?_; rintro e w2 ⟨rfl, hb2⟩) | (go_at_call 59; refine (HU.out _).mono ?_; rintro e w3 ⟨ua, rfl, hn3, hb3⟩; have HB3 := hid (bstep' (bstep' HBF.out hb2) hb3); have HS3 := hid (Sep.below (Sep.below HSF.out hb2) hb3); have HN := hid hn3) | (at_builtin; refine wpList_append_sep eltStep rfl _ _ rfl w.heap.size [] HS3.out rfl HN.out rfl (by omega) HB3.out.size ?_))
      intro va2 vc2 w5 hs5 hb5 hg5
      have HS5 := hid hs5
      have HB5 := hid (HB3.out.trans hb5)
      clear hs5 hb5 hg5 hn3 hb2 hb3
      go_wp2
      go_roundw
      case rel =>
        refine ⟨k + 1, va2, vc2, by go_num, by omega, by rw [HC.out, List.length_append], ?_, HB5.out⟩
        show Sep _ _ _
        rw [HC.out]
        have h9 := HS5.out
        simpa [flatN_append, List.length_append] using h9
      case measure => simp [intOf]; omega
    · obtain rfl : k = xs.length := by omega
      rw [List.take_of_length_le (Nat.le_refl _)] at HS
      go_wp2
      go_ret
      refine ⟨va, vc, ?_, one_sep HS.out, HB.out⟩
      show Ending.returned (.slice va (codeL (xs.take xs.length)).length vc) = _
      rw [List.take_of_length_le (Nat.le_refl _)]
/-- what a function of flat steps that tells code answers -/
def CodeIs (w w' : World) (xs : List Flt) (e : Ending) : Prop :=
  (lowL xs = false ∧ e = .returned (.tuple #[.slice none 0 0, .bool false])) ∨ (lowL xs = true ∧ ∃ va vc, e = .returned (.tuple #[.slice va (codeL xs).length vc, .bool true]) ∧ w'.ownsRow w.heap.size 58 3 (.slice va (codeL xs).length vc) (codeL xs).length (flatN (codeL xs)))
set_option maxHeartbeats 1000000 in
theorem iFlatSteps_any (a : Option Addr) (c : Nat) (xs : List Flt) (w : World) (hl : xs.length ≤ 9223372036854775807) (h : FRow w a xs) :
    Calls Try.prog 10 #[.slice a xs.length c] w fun e w' => CodeIs w w' xs e ∧ Below w.heap.size w w' := by
  have HF : Hid (∀ W, Below w.heap.size w W → FRow W a xs) := fun W hW => h.below hW
  by_cases h6 : xs.length ≤ 60
  rotate_left
  · have HL : Hid (lowL xs = false) := by show _ = _; simp [lowL, h6]
    have h7 : (60 : Int) < (xs.length : Int) := by omega
    go_enter Try.func10, Try.ntmps10
    go_wp2
    go_ret2
    exact ⟨.inl ⟨HL.out, rfl⟩, Below.refl _ _⟩
  have h7 : ¬ (60 : Int) < (xs.length : Int) := by omega
  obtain ⟨G, hG⟩ : ∃ G, allFm 8 xs = G := ⟨_, rfl⟩
  have HC : Hid (∀ W, Below w.heap.size w W → Calls Try.prog 32 #[.slice a xs.length c, .func (.func 30) #[] #[]] W fun e w' => e = .returned (.bool (!G)) ∧ Below W.heap.size W w') := fun W hW => by
    rw [← hG]; exact containsN_any a c xs W hl (HF.out W hW)
  have HL : Hid (lowL xs = G) := by show _ = _; simp [lowL, h6, hG]
  have HG := hid hG
  clear hG
  cases G with
  | false =>
    go_enter Try.func10, Try.ntmps10
    go_wp2_with (go_at_call 32; refine (HC.out _ (Below.refl _ _)).mono ?_; rintro e w2 ⟨rfl, hb2⟩)
    go_ret2
    exact ⟨.inl ⟨HL.out, rfl⟩, hb2⟩
  | true =>
    go_enter Try.func10, Try.ntmps10
    go_wp2_with (first | (go_at_call 32; refine (HC.out _ (Below.refl _ _)).mono ?_; rintro e w2 ⟨rfl, hb2⟩) | (go_at_call 33; refine (flatCode_any a c xs _ h6 HG.out (HF.out _ hb2)).mono ?_; rintro e w3 ⟨va, vc, rfl, ho3, hb3⟩))
    go_ret2
    exact ⟨.inr ⟨HL.out, va, vc, rfl, owns_mono ho3 hb2.size⟩, bstep' hb2 hb3⟩
end Go.Proofs.Ytiaiaejijicddaa
