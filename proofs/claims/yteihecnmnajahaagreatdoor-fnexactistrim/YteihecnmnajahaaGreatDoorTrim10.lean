/- Needless params: IsTrim, the model's side. -/
import Derived.Test.YteihecnmnajahaaGreatDoorTrim9
namespace Go.Proofs.YteihecnmnajahaaGreatDoor
open Go Go.RowKit
set_option linter.unusedVariables false
set_option linter.unusedSimpArgs false
set_option maxRecDepth 100000

/-- what IsTrim tells -/
structure TrimIs (V : Int) (xs : List Prt) (G B : Bool) : Prop where
  good : G = true ↔ GoodS V xs
  no : G = false → B = false
  yes : G = true → (B = true ↔ noNeedless xs)
theorem exists_trim (V : Int) (xs : List Prt) : ∃ G B, TrimIs V xs G B := by
  by_cases h : GoodS V xs
  · by_cases h2 : noNeedless xs
    · exact ⟨true, true, ⟨fun _ => h, fun _ => rfl⟩, (by intro h; cases h), fun _ => ⟨fun _ => h2, fun _ => rfl⟩⟩
    · exact ⟨true, false, ⟨fun _ => h, fun _ => rfl⟩, (by intro h; cases h), fun _ => ⟨(by intro h; cases h), fun h => absurd h h2⟩⟩
  · exact ⟨false, false, ⟨(by intro h; cases h), fun g => absurd g h⟩, fun _ => rfl, (by intro h; cases h)⟩
/-- three numbers, the first below zero where no param is needless -/
def NeedAns (xs : List Prt) (e : Ending) : Prop := ∃ r b d : Int, e = .returned (.tuple #[.int .i64 r, .int .i64 b, .int .i64 d]) ∧ (r < 0 ↔ noNeedless xs)
set_option maxHeartbeats 4000000 in
theorem sIsTrim_any (V : Int) (xs : List Prt) (a : Option Addr) (c : Nat) (w : World) (G B : Bool) (hD : TrimIs V xs G B) (hl : xs.length ≤ 9223372036854775807) (hs : sumP xs ≤ 1048576) (hX : PRow w a xs) :
    Calls Tryz.prog 16 #[.agg #[.slice a xs.length c, .int .i64 V]] w fun e w' => e = .returned (.tuple #[.bool B, .bool G]) ∧ Below w.heap.size w w' := by
  have b1 := below1 w (.cells #[.slice a xs.length c, .int .i64 V] 30)
  have k0 : (w.alloc (.cells #[.slice a xs.length c, .int .i64 V] 30)).cell? ⟨w.heap.size, 0, none⟩ = some (.slice a xs.length c) := by simp [go_sem]
  have k1 : (w.alloc (.cells #[.slice a xs.length c, .int .i64 V] 30)).cell? ⟨w.heap.size, 1, none⟩ = some (.int .i64 V) := by simp [go_sem]
  obtain ⟨W0, hW0⟩ : ∃ W, W = w.alloc (.cells #[.slice a xs.length c, .int .i64 V] 30) := ⟨_, rfl⟩
  rw [← hW0] at b1 k0 k1
  have HW0 := hid hW0.symm
  have HB0 := hid b1
  have HX := hid (hX.below b1)
  have H14 : Hid (Calls Tryz.prog 14 #[.agg #[.slice a xs.length c, .int .i64 V]] W0 fun e w' => e = .returned (.bool G) ∧ Below W0.heap.size W0 w') := (sGoodSsa_any V xs a c W0 hl hs (hX.below b1)).mono fun e w' ⟨b, he, hb, hw⟩ => ⟨by rw [he, show b = G by rw [Bool.eq_iff_iff, hb, hD.good]], hw⟩
  have HD := hid hD
  clear hX hs hW0 hD
  cases G with
  | false =>
    have HZ := hid (HD.out.no rfl)
    go_enter Tryz.func16, Tryz.ntmps16
    go_upto_region 1 with fail
    try rw [HW0.out]
    clear HW0
    go_wp2_with (go_at_call 14; refine H14.out.mono ?_; rintro e w1 ⟨rfl, hb1⟩)
    have HB1 := hid (bstep' HB0.out hb1)
    clear hb1
    go_ret2
    exact ⟨by rw [HZ.out] <;> rfl, HB1.out⟩
  | true =>
    have hG := HD.out.good.1 rfl
    have hmo := hG.most
    have HE : Hid (∀ p ∈ xs, ArgIn xs p) := fun p hp => arg_of (V := V.toNat) (by have := hG.parts p hp; rwa [show V = ((V.toNat : Nat) : Int) by have := hG.low; omega] at this)
    have HY := hid (HD.out.yes rfl)
    have H50 := hid (fun (W : World) (h : Below W0.heap.size W0 W) => (l9Needless_any V xs a c W hmo HE.out (HX.out.below h)).mono (R' := fun e w' => NeedAns xs e ∧ Below W.heap.size W w') fun e w' ⟨⟨r, b, d, he, hr⟩, hb⟩ => ⟨⟨r, b, d, he, hr⟩, hb⟩)
    clear hG
    go_enter Tryz.func16, Tryz.ntmps16
    go_upto_region 1 with fail
    try rw [HW0.out]
    clear HW0
    go_upto_region 3 with (go_at_call 14; refine H14.out.mono ?_; rintro e w1 ⟨rfl, hb1⟩)
    have q0 := cell_below k0 hb1
    have q1 := cell_below k1 hb1
    have HB1 := hid hb1
    clear hb1 k0 k1
    go_wp2_with (go_at_call 50; refine (H50.out _ HB1.out).mono ?_; rintro e w2 ⟨⟨r, bb, dd, rfl, hr⟩, hb2⟩)
    have HB3 := hid (bstep' HB1.out hb2)
    have HN : Hid (B = decide (r < 0)) := by
      show _ = _
      rw [Bool.eq_iff_iff, HY.out, decide_eq_true_eq, hr]
    clear hb2 hr
    go_ret2
    exact ⟨by rw [HN.out] <;> rfl, bstep' HB0.out HB3.out⟩
end Go.Proofs.YteihecnmnajahaaGreatDoor
