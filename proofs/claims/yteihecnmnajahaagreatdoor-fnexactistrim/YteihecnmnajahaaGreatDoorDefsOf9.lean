/- The model's DefsOf, and the program's. -/
import Derived.Test.YteihecnmnajahaaGreatDoorIgs9
namespace Go.Proofs.YteihecnmnajahaaGreatDoor
open Go Go.RowKit
set_option linter.unusedVariables false
set_option linter.unusedSimpArgs false
set_option maxRecDepth 100000

/-- a list that is owned, and a Bool -/
def AnsD (w w' : World) (zs : List Int) (G : Bool) (e : Ending) : Prop := ∃ v, e = .returned (.tuple #[v, .bool G]) ∧ w'.ownsRow w.heap.size 3 1 v zs.length (ints zs)
theorem AnsD.none (w w' : World) : AnsD w w' [] false (.returned (.tuple #[.slice none 0 0, .bool false])) := ⟨_, rfl, World.ownsRow_nil _ _ _ _⟩
/-- what DefsOf tells -/
structure DefsIs (V : Int) (xs : List Prt) (G : Bool) (zs : List Int) : Prop where
  good : G = true ↔ GoodS V xs
  no : G = false → zs = []
  yes : G = true → defsL V.toNat xs = some zs
theorem exists_defs (V : Int) (xs : List Prt) : ∃ G zs, DefsIs V xs G zs := by
  by_cases h : GoodS V xs
  · obtain ⟨D, hD, _⟩ := h.defs
    exact ⟨true, D, ⟨fun _ => h, fun _ => rfl⟩, (by intro h; cases h), fun _ => hD⟩
  · exact ⟨false, [], ⟨(by intro h; cases h), fun g => absurd g h⟩, fun _ => rfl, (by intro h; cases h)⟩
theorem DefsIs.len {V : Int} {xs : List Prt} {G : Bool} {zs : List Int} (h : DefsIs V xs G zs) : zs.length ≤ 250 := by
  cases G with
  | false => rw [h.no rfl]; simp
  | true =>
    have h1 := (defsFrom_len (h.yes rfl)).trans (defs0_len _)
    have h2 := (h.good.1 rfl).high
    omega
set_option maxHeartbeats 2000000 in
theorem sDefsOf_any (V : Int) (xs : List Prt) (a : Option Addr) (c : Nat) (w : World) (G : Bool) (zs : List Int) (hD : DefsIs V xs G zs) (hl : xs.length ≤ 9223372036854775807) (hs : sumP xs ≤ 1048576) (hX : PRow w a xs) :
    Calls Tryz.prog 18 #[.agg #[.slice a xs.length c, .int .i64 V]] w fun e w' => AnsD w w' zs G e ∧ Below w.heap.size w w' := by
  have b1 := below1 w (.cells #[.slice a xs.length c, .int .i64 V] 30)
  have k0 : (w.alloc (.cells #[.slice a xs.length c, .int .i64 V] 30)).cell? ⟨w.heap.size, 0, none⟩ = some (.slice a xs.length c) := by simp [go_sem]
  have k1 : (w.alloc (.cells #[.slice a xs.length c, .int .i64 V] 30)).cell? ⟨w.heap.size, 1, none⟩ = some (.int .i64 V) := by simp [go_sem]
  obtain ⟨W0, hW0⟩ : ∃ W, W = w.alloc (.cells #[.slice a xs.length c, .int .i64 V] 30) := ⟨_, rfl⟩
  rw [← hW0] at b1 k0 k1
  have HW0 := hid hW0.symm
  have HB0 := hid b1
  have HX := hid (fun (W : World) (h : Below W0.heap.size W0 W) => hX.below (bstep' b1 h))
  have HS := hid hs
  have H14 : Hid (Calls Tryz.prog 14 #[.agg #[.slice a xs.length c, .int .i64 V]] W0 fun e w' => e = .returned (.bool G) ∧ Below W0.heap.size W0 w') := (sGoodSsa_any V xs a c W0 hl hs (hX.below b1)).mono fun e w' ⟨b, he, hb, hw⟩ => ⟨by rw [he, show b = G by rw [Bool.eq_iff_iff, hb, hD.good]], hw⟩
  have HD := hid hD
  clear hX hs hW0 hD
  cases G with
  | false =>
    have HZ := hid (HD.out.no rfl)
    go_enter Tryz.func18, Tryz.ntmps18
    go_upto_region 1 with fail
    try rw [HW0.out]
    clear HW0
    go_wp2_with (go_at_call 14; refine H14.out.mono ?_; rintro e w1 ⟨rfl, hb1⟩)
    have HB1 := hid (bstep' HB0.out hb1)
    clear hb1
    go_ret2
    exact ⟨by rw [HZ.out]; exact AnsD.none _ _, HB1.out⟩
  | true =>
    have hG := HD.out.good.1 rfl
    obtain ⟨N, hN⟩ : ∃ N : Nat, V = N := ⟨V.toNat, by have := hG.low; omega⟩
    subst hN
    have hlo := hG.low
    have hhi := hG.high
    have hmo := hG.most
    have HY := hid (HD.out.yes rfl)
    have H39 := hid (fun (W : World) (h : Below W0.heap.size W0 W) => l9Defs_any N (by omega) (by omega) xs a c W hmo HS.out (HX.out W h))
    have H39s : Hid (∀ W, Below W0.heap.size W0 W → Calls Tryz.prog 39 #[.agg #[.slice a xs.length c, .int .i64 (N : Int)]] W fun e w' => ∃ va vc, e = .returned (.tuple #[.slice va zs.length vc, .bool true]) ∧ w'.ownsRow W.heap.size 3 1 (.slice va zs.length vc) zs.length (ints zs) ∧ Below W.heap.size W w') := fun W h => (H39.out W h).mono fun e w' ⟨hd, hb⟩ => by
      have hy := HY.out
      rw [Int.toNat_natCast] at hy
      rcases hd with ⟨hn, _⟩ | ⟨D, va, vc, h1, he, ho⟩
      · rw [hn] at hy; cases hy
      · rw [h1] at hy; cases hy; exact ⟨va, vc, he, ho, hb⟩
    clear H39 hG hlo hhi hmo
    go_enter Tryz.func18, Tryz.ntmps18
    go_upto_region 1 with fail
    try rw [HW0.out]
    clear HW0
    go_wp2_with (first | (go_at_call 14; refine H14.out.mono ?_; rintro e w1 ⟨rfl, hb1⟩; have q0 := cell_below k0 hb1; have q1 := cell_below k1 hb1) | (go_at_call 39; refine (H39s.out _ hb1).mono ?_; rintro e w2 ⟨va, vc, rfl, ho2, hb2⟩))
    have HB2 := hid (bstep' (bstep' HB0.out hb1) hb2)
    have HO2 := hid (owns_mono ho2 (Nat.le_trans HB0.out.size hb1.size))
    clear hb1 hb2 ho2
    go_ret2
    exact ⟨⟨_, rfl, HO2.out⟩, HB2.out⟩
set_option maxHeartbeats 2000000 in
theorem iDefsOf_any (V : Int) (xs : List Prt) (a : Option Addr) (c : Nat) (w : World) (G : Bool) (zs : List Int) (hD : DefsIs V xs G zs) (hl : xs.length ≤ 9223372036854775807) (hs : sumP xs ≤ 1048576) (hT : Tab w) (hX : PRow w a xs) :
    Calls Tryz.prog 19 #[.agg #[.slice a xs.length c, .int .i64 V]] w fun e w' => AnsD w w' zs G e ∧ Below w.heap.size w w' := by
  have b1 := below1 w (.cells #[.slice a xs.length c, .int .i64 V] 30)
  have k0 : (w.alloc (.cells #[.slice a xs.length c, .int .i64 V] 30)).cell? ⟨w.heap.size, 0, none⟩ = some (.slice a xs.length c) := by simp [go_sem]
  have k1 : (w.alloc (.cells #[.slice a xs.length c, .int .i64 V] 30)).cell? ⟨w.heap.size, 1, none⟩ = some (.int .i64 V) := by simp [go_sem]
  obtain ⟨W0, hW0⟩ : ∃ W, W = w.alloc (.cells #[.slice a xs.length c, .int .i64 V] 30) := ⟨_, rfl⟩
  rw [← hW0] at b1 k0 k1
  have HW0 := hid hW0.symm
  have HB0 := hid b1
  have HX := hid (fun (W : World) (h : Below W0.heap.size W0 W) => hX.below (bstep' b1 h))
  have HS := hid hs
  have H15 : Hid (Calls Tryz.prog 15 #[.agg #[.slice a xs.length c, .int .i64 V]] W0 fun e w' => e = .returned (.bool G) ∧ Below W0.heap.size W0 w') := (iGoodSsa_any V xs a c W0 hl hs (hT.below b1) (hX.below b1)).mono fun e w' ⟨b, he, hb, hw⟩ => ⟨by rw [he, show b = G by rw [Bool.eq_iff_iff, hb, hD.good]], hw⟩
  have HD := hid hD
  clear hX hs hT hW0 hD
  cases G with
  | false =>
    have HZ := hid (HD.out.no rfl)
    go_enter Tryz.func19, Tryz.ntmps19
    go_upto_region 1 with fail
    try rw [HW0.out]
    clear HW0
    go_wp2_with (go_at_call 15; refine H15.out.mono ?_; rintro e w1 ⟨rfl, hb1⟩)
    have HB1 := hid (bstep' HB0.out hb1)
    clear hb1
    go_ret2
    exact ⟨by rw [HZ.out]; exact AnsD.none _ _, HB1.out⟩
  | true =>
    have hG := HD.out.good.1 rfl
    obtain ⟨N, hN⟩ : ∃ N : Nat, V = N := ⟨V.toNat, by have := hG.low; omega⟩
    subst hN
    have hlo := hG.low
    have hhi := hG.high
    have hmo := hG.most
    have HY := hid (HD.out.yes rfl)
    have H48 := hid (fun (W : World) pa pc (h : CRow W pa xs) => defsIn_any N (by omega) (by omega) xs pa pc W hmo (fun p hp => ⟨(prtOk_of (hG.parts p hp)).few, Nat.le_trans (len_sumP xs p hp) HS.out, (prtOk_of (hG.parts p hp)).comes⟩) h)
    have H48s : Hid (∀ W pa pc, CRow W pa xs → Calls Tryz.prog 48 #[.slice pa xs.length pc, .int .i64 (N : Int)] W fun e w' => ∃ va vc, e = .returned (.tuple #[.slice va zs.length vc, .bool true]) ∧ w'.ownsRow W.heap.size 3 1 (.slice va zs.length vc) zs.length (ints zs) ∧ Below W.heap.size W w') := fun W pa pc h => (H48.out W pa pc h).mono fun e w' ⟨hd, hb⟩ => by
      have hy := HY.out
      rw [Int.toNat_natCast] at hy
      rcases hd with ⟨hn, _⟩ | ⟨D, va, vc, h1, he, ho⟩
      · rw [hn] at hy; cases hy
      · rw [h1] at hy; cases hy; exact ⟨va, vc, he, ho, hb⟩
    have H35 := hid (fun (W : World) (h : Below W0.heap.size W0 W) => piecesOf_any (N : Int) xs a c W (by omega) (HX.out W h))
    clear H48 hG hlo hhi hmo
    go_enter Tryz.func19, Tryz.ntmps19
    go_upto_region 1 with fail
    try rw [HW0.out]
    clear HW0
    go_upto_region 3 with (go_at_call 15; refine H15.out.mono ?_; rintro e w1 ⟨rfl, hb1⟩)
    have q0 := cell_below k0 hb1
    have q1 := cell_below k1 hb1
    have HK := hid (fun (W : World) (h : Below w1.heap.size w1 W) => And.intro (cell_below q0 h) (cell_below q1 h))
    have HB1 := hid hb1
    clear hb1 k0 k1
    go_region_held (fun W => W.cell? ⟨w.heap.size, 0, none⟩ = some (.slice a xs.length c) ∧ W.cell? ⟨w.heap.size, 1, none⟩ = some (.int .i64 (N : Int))) ((first | exact HK.out _ hb3 | exact HK.out _ hb2 | go_keep)) ((first | (go_at_call 35; refine (H35.out _ HB1.out.drew).mono ?_; rintro e w2 ⟨pa, pc, rfl, hc2, hb2'⟩; have hb2 := below_of_drew hb2') | (go_at_call 48; refine (H48s.out _ _ _ hc2).mono ?_; rintro e w3 ⟨va, vc, rfl, ho3, hb3'⟩; have hb3 := bstep' hb2 hb3')))
    have HB3 := hid (bstep' (bstep' HB0.out HB1.out) hb3)
    have HO3 := hid (owns_mono ho3 (Nat.le_trans (Nat.le_trans HB0.out.size HB1.out.size) hb2.size))
    clear hb2 hb2' hb3 hb3' ho3 hc2 q0 q1
    go_wp2
    go_ret2
    exact ⟨⟨_, rfl, HO3.out⟩, HB3.out⟩
end Go.Proofs.YteihecnmnajahaaGreatDoor
