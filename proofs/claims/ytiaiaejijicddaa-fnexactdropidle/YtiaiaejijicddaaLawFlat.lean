/- The model's FlatSteps; the law on FlatSteps answers true, at every list of flat steps. -/
import Derived.Test.YtiaiaejijicddaaSSteps
import Derived.Test.YtiaiaejijicddaaIFlat
import Derived.Test.YtiaiaejijicddaaMarkN
import Derived.Test.YtiaiaejijicddaaMarkF
namespace Go.Proofs.Ytiaiaejijicddaa
open Go Go.RowKit
set_option linter.unusedVariables false
set_option linter.unusedSimpArgs false
set_option maxRecDepth 100000

theorem sFlatSteps_any (a : Option Addr) (c : Nat) (xs : List Flt) (w : World) (hl : xs.length ≤ 9223372036854775807) (h : FRow w a xs) :
    Calls Try.prog 8 #[.slice a xs.length c] w fun e w' => CodeIs w w' xs e ∧ Below w.heap.size w w' := by
  have H := hid h
  have hf := l14Low_any a c xs w hl h
  obtain ⟨G, hG⟩ : ∃ G, lowL xs = G := ⟨_, rfl⟩
  rw [hG] at hf
  have HF := hid hf
  have HG := hid hG
  clear h hf hG
  cases G with
  | false =>
    go_enter Try.func8, Try.ntmps8
    go_wp2_with (go_at_call 27; refine HF.out.mono ?_; rintro e w1 ⟨rfl, hb1⟩)
    go_ret2
    exact ⟨.inl ⟨HG.out, rfl⟩, hb1⟩
  | true =>
    have h6 : xs.length ≤ 60 := by have := HG.out; simp [lowL] at this; exact this.2
    go_enter Try.func8, Try.ntmps8
    go_wp2_with (first | (go_at_call 27; refine HF.out.mono ?_; rintro e w1 ⟨rfl, hb1⟩) | (go_at_call 28; refine (l14Steps_any a c xs _ h6 (H.out.below hb1)).mono ?_; rintro e w2 ⟨va, vc, rfl, ho2, hb2⟩))
    go_ret2
    exact ⟨.inr ⟨HG.out, va, vc, rfl, owns_mono ho2 hb1.size⟩, bstep' hb1 hb2⟩
/-- what both tell -/
def toldL (xs : List Flt) : List PS := if lowL xs then codeL xs else []
theorem toldL_len (xs : List Flt) : (toldL xs).length ≤ 240 := by
  unfold toldL
  split
  · rename_i h
    have h6 : xs.length ≤ 60 := by simp [lowL] at h; exact h.2
    have := codeL_len xs; omega
  · simp
theorem CodeIs.told {w w' : World} {xs : List Flt} {e : Ending} (h : CodeIs w w' xs e) : ∃ va vc, e = .returned (.tuple #[.slice va (toldL xs).length vc, .bool (lowL xs)]) ∧ w'.ownsRow w.heap.size 58 3 (.slice va (toldL xs).length vc) (toldL xs).length (flatN (toldL xs)) := by
  rcases h with ⟨h, rfl⟩ | ⟨h, va, vc, rfl, ho⟩
  · rw [show toldL xs = [] by simp [toldL, h], h]; exact ⟨none, 0, rfl, World.ownsRow_nil _ _ _ _⟩
  · rw [show toldL xs = codeL xs by simp [toldL, h], h]; exact ⟨va, vc, rfl, ho⟩
set_option maxHeartbeats 8000000 in
theorem lawFlatSteps (a : Option Addr) (c : Nat) (xs : List Flt) (w : World) (hl : xs.length ≤ 9223372036854775807) (h : FRow w a xs) :
    Calls Try.prog 3 #[.slice a xs.length c] w fun e w' => e = .returned (.bool true) ∧ Below w.heap.size w w' := by
  have HZ := hid (szFlatS_any a c xs.length 1048576 w hl (by omega) (by omega))
  by_cases hn : (1048576 : Int) < (xs.length : Int)
  · rw [if_pos hn] at HZ
    go_enter Try.func3, Try.ntmps3
    go_wp2_with (go_at_call 7; refine HZ.out.mono ?_; rintro e w1 ⟨rfl, hw⟩; subst w1)
    go_ret
    exact ⟨rfl, Below.refl _ _⟩
  rw [if_neg hn] at HZ
  have hl2 : xs.length ≤ 1048576 := by omega
  have hn0 : ¬ ((1048576 : Int) - (xs.length : Int) < 0) := by omega
  have H := hid (fun (W : World) (hb : Below w.heap.size w W) => h.below hb)
  have HT : Hid (∀ W, Below w.heap.size w W → Calls Try.prog 9 #[.slice a xs.length c] W fun e w' => ∃ va vc, e = .returned (.slice va xs.length vc) ∧ w'.ownsRow W.heap.size 49 6 (.slice va xs.length vc) xs.length (flatF xs) ∧ Below W.heap.size W w') := fun W hb => toFlatS_any a c xs W hl2 (H.out W hb)
  have hcl := toldL_len xs
  obtain ⟨cs, hcs⟩ : ∃ l, toldL xs = l := ⟨_, rfl⟩
  obtain ⟨G, hG⟩ : ∃ G, lowL xs = G := ⟨_, rfl⟩
  rw [hcs] at hcl
  have HS8 : Hid (∀ W va vc, FRow W va xs → Calls Try.prog 8 #[.slice va xs.length vc] W fun e w' => (∃ ra rc, e = .returned (.tuple #[.slice ra cs.length rc, .bool G]) ∧ w'.ownsRow W.heap.size 58 3 (.slice ra cs.length rc) cs.length (flatN cs)) ∧ Below W.heap.size W w') := fun W va vc hr => (sFlatSteps_any va vc xs W hl hr).mono fun e w' ⟨h1, h2⟩ => ⟨by have h9 := h1.told; rw [hcs, hG] at h9; exact h9, h2⟩
  have HS10 : Hid (∀ W va vc, FRow W va xs → Calls Try.prog 10 #[.slice va xs.length vc] W fun e w' => (∃ ra rc, e = .returned (.tuple #[.slice ra cs.length rc, .bool G]) ∧ w'.ownsRow W.heap.size 58 3 (.slice ra cs.length rc) cs.length (flatN cs)) ∧ Below W.heap.size W w') := fun W va vc hr => (iFlatSteps_any va vc xs W hl hr).mono fun e w' ⟨h1, h2⟩ => ⟨by have h9 := h1.told; rw [hcs, hG] at h9; exact h9, h2⟩
  have hGG : (G != G) = false := by cases G <;> rfl
  clear h hcs hG hn
  go_enter Try.func3, Try.ntmps3
  go_upto_region 3 with (go_at_call 7; refine HZ.out.mono ?_; rintro e w1 ⟨rfl, hw⟩; subst w1)
  go_upto_region 6 with (first | (go_at_call 9; refine (HT.out _ (Below.refl _ _)).mono ?_; rintro e w1 ⟨va, vc, rfl, ho1, hb1⟩) | (go_at_call 8; refine (HS8.out _ va vc (own_frow ho1)).mono ?_; rintro e w2 ⟨⟨ra, rc, rfl, ho2⟩, hb2⟩))
  have HS2 := hid (sep_one (owns_mono (B' := w.heap.size) ho2 hb1.size))
  have HB2 := hid (bstep' hb1 hb2)
  clear ho1 ho2 hb1 hb2
  go_upto_region 7 with (go_at_call 9; refine (HT.out _ HB2.out).mono ?_; rintro e w3 ⟨xa, xc, rfl, ho3, hb3⟩)
  have HX3 := hid ho3
  have HS3 : Hid (Sep w3 w.heap.size ([⟨58, 3, .slice ra cs.length rc, cs.length, flatN cs⟩] ++ [⟨49, 6, .slice xa xs.length xc, xs.length, flatF xs⟩])) := Sep.append HS2.out hb3 HB2.out.size (sep_one ho3)
  have HB3 := hid (bstep' HB2.out hb3)
  clear ho3 hb3
  go_upto_region 8 with (go_at_call 10; refine (HS10.out _ xa xc (own_frow HX3.out)).mono ?_; rintro e w4 ⟨⟨ga, gc, rfl, ho4⟩, hb4⟩)
  have HS4 : Hid (Sep w4 w.heap.size (([⟨58, 3, .slice ra cs.length rc, cs.length, flatN cs⟩] ++ [⟨49, 6, .slice xa xs.length xc, xs.length, flatF xs⟩]) ++ [⟨58, 3, .slice ga cs.length gc, cs.length, flatN cs⟩])) := Sep.append HS3.out hb4 HB3.out.size (sep_one ho4)
  have HB4 := hid (bstep' HB3.out hb4)
  clear ho4 hb4 HX3 HS3 HS2
  have RR4 := hid (trowN (Sep.get HS4.out (x := ⟨58, 3, .slice ra cs.length rc, cs.length, flatN cs⟩) (by simp)))
  have RG4 := hid (trowN (Sep.get HS4.out (x := ⟨58, 3, .slice ga cs.length gc, cs.length, flatN cs⟩) (by simp)))
  go_upto_region 10 with (go_at_call 11; refine (eqN_any ga ra gc rc cs _ (by omega) RG4.out RR4.out).mono ?_; rintro e w5 ⟨rfl, hb5⟩)
  have HS5 := hid (HS4.out.below hb5)
  have HB5 := hid (bstep' HB4.out hb5)
  have RX5 := hid (own_frow (Sep.get HS5.out (x := ⟨49, 6, .slice xa xs.length xc, xs.length, flatF xs⟩) (by simp)))
  clear hb5 HS4 HB4 RR4 RG4
  go_upto_region 12 with (first | (go_at_call 9; refine (HT.out _ HB5.out).mono ?_; rintro e w6 ⟨ya, yc, rfl, ho6, hb6⟩) | (go_at_call 12; refine (eqFlatS_same xa ya xc yc xs _ hl (RX5.out.below hb6) (own_frow ho6)).mono ?_; rintro e w7 ⟨rfl, hb7⟩))
  have HS7 : Hid (Sep w7 w.heap.size ([⟨58, 3, .slice ra cs.length rc, cs.length, flatN cs⟩] ++ ⟨49, 6, .slice xa xs.length xc, xs.length, flatF xs⟩ :: [⟨58, 3, .slice ga cs.length gc, cs.length, flatN cs⟩])) := by
    have h9 := (HS5.out.below hb6).below hb7
    rw [List.append_assoc] at h9
    exact h9
  have HB7 := hid (bstep' (bstep' HB5.out hb6) hb7)
  clear hb6 hb7 ho6 HS5 HB5 RX5
  have OX7 := hid (Sep.get HS7.out (x := ⟨49, 6, .slice xa xs.length xc, xs.length, flatF xs⟩) (by simp))
  go_upto_region 14 with (go_at_call 13; refine (markFlat_any w.heap.size _ xs 1 _ (by omega) (by omega) hl2 OX7.out).mono ?_; rintro e w8 ⟨rfl, ho8, hg8⟩)
  have HS8' : Hid (Sep w8 w.heap.size ([⟨58, 3, .slice ra cs.length rc, cs.length, flatN cs⟩] ++ ⟨49, 6, .slice xa xs.length xc, xs.length, flatF (markF 1 xs)⟩ :: [⟨58, 3, .slice ga cs.length gc, cs.length, flatN cs⟩])) := HS7.out.turn _ (Below.refl _ _) hg8 ⟨49, 6, .slice xa xs.length xc, xs.length, flatF (markF 1 xs)⟩ ho8 (fun k hk => .inl hk)
  have HB8 := hid (HB7.out.grown hg8 HB7.out.size (fun k hk => (OX7.out.lt k hk).1))
  clear ho8 hg8 OX7 HS7 HB7
  have hm0 : ¬ ((1 : Int) + 6 * (xs.length : Int) < 0) := by omega
  have RR8 := hid (trowN (Sep.get HS8'.out (x := ⟨58, 3, .slice ra cs.length rc, cs.length, flatN cs⟩) (by simp)))
  have RG8 := hid (trowN (Sep.get HS8'.out (x := ⟨58, 3, .slice ga cs.length gc, cs.length, flatN cs⟩) (by simp)))
  go_upto_region 17 with (go_at_call 11; refine (eqN_any ga ra gc rc cs _ (by omega) RG8.out RR8.out).mono ?_; rintro e w9 ⟨rfl, hb9⟩)
  have HS9 := hid (HS8'.out.below hb9)
  have HB9 := hid (bstep' HB8.out hb9)
  clear hb9 RR8 RG8 HS8' HB8 hm0
  have OG9 := hid (Sep.get HS9.out (x := ⟨58, 3, .slice ga cs.length gc, cs.length, flatN cs⟩) (by simp))
  go_upto_region 18 with (go_at_call 14; refine (markN_any w.heap.size _ cs _ (by omega) OG9.out).mono ?_; rintro e w10 ⟨rfl, hg10, hr10⟩)
  have HB10 := hid (HB9.out.grown hg10 HB9.out.size (fun k hk => (OG9.out.lt k hk).1))
  have OR10 : Hid (w10.ownsRow w.heap.size 58 3 (.slice ra cs.length rc) cs.length (flatN cs)) := by
    have ho := Sep.get HS9.out (x := ⟨58, 3, .slice ra cs.length rc, cs.length, flatN cs⟩) (by simp)
    have hp := (List.pairwise_cons.1 HS9.out.2).1 ⟨58, 3, .slice ga cs.length gc, cs.length, flatN cs⟩ (by simp)
    exact ho.kept hg10 hp
  have RG10 := hid (hr10 ga cs.length gc rfl)
  clear hg10 hr10 OG9 HS9 HB9
  have hk0 : ¬ ((1 : Int) + 2 * (cs.length : Int) < 0) := by omega
  go_upto_region 24 with (go_at_call 15; refine (heldN_any ga gc cs _ (by omega) RG10.out).mono ?_; rintro e w11 ⟨rfl, hw11⟩; subst w11)
  go_upto_region 25 with (first | (go_at_call 9; refine (HT.out _ HB10.out).mono ?_; rintro e w12 ⟨ya, yc, rfl, ho12, hb12⟩) | (go_at_call 10; refine (HS10.out _ ya yc (own_frow ho12)).mono ?_; rintro e w13 ⟨⟨ha, hc, rfl, ho13⟩, hb13⟩))
  have RR13 := hid (trowN (owns_below (owns_below OR10.out hb12) hb13))
  have RH13 := hid (trowN ho13)
  have RG13 := hid ((RG10.out.below hb12).below hb13)
  have HB13 := hid (bstep' (bstep' HB10.out hb12) hb13)
  clear ho12 hb12 ho13 hb13 RG10 OR10 HB10
  go_upto_region 27 with (go_at_call 11; refine (eqN_any ha ra hc rc cs _ (by omega) RH13.out RR13.out).mono ?_; rintro e w14 ⟨rfl, hb14⟩)
  have RG14 := hid (RG13.out.below hb14)
  have HB14 := hid (bstep' HB13.out hb14)
  clear hb14 RG13 HB13 RR13 RH13
  go_wp2_with (go_at_call 15; refine (heldN_any ga gc cs _ (by omega) RG14.out).mono ?_; rintro e w15 ⟨rfl, hw15⟩; subst w15)
  go_ret
  exact ⟨rfl, HB14.out⟩
end Go.Proofs.Ytiaiaejijicddaa
