/- The law on OnceBy is true at all arguments. -/
import Derived.Test.YtpjhmminbndgiaaIOnce
import Derived.Test.YtpjhmminbndgiaaMarkT
namespace Go.Proofs.Ytpjhmminbndgiaa
open Go.RowKit
set_option linter.unusedVariables false
set_option linter.unusedSimpArgs false
set_option maxRecDepth 100000

theorem grownBy_trans {a b c : World} {row : Option Nat} (h : a.grownBy b row) (k : b.grownBy c row) : a.grownBy c row :=
  ⟨k.os.trans h.os, k.tape.trans h.tape, k.output.trans h.output, Nat.le_trans h.size k.size, fun i hi hne => (k.block i (Nat.lt_of_lt_of_le hi h.size) hne).trans (h.block i hi hne)⟩
set_option maxHeartbeats 4000000 in
/-- marking rules that are owned -/
theorem markRules_any (B n : Nat) (v : Value) (xs : List Value) (w : World) (hl : n ≤ 1048576) (h : w.ownsRow B 82 2 v n xs) :
    Calls Try.prog 39 #[v, .int .i64 1] w fun e w' => e = .returned (.int .i64 (1 + 2 * (n : Int))) ∧ (∃ cells, w'.ownsRow B 82 2 v n cells) ∧ w.grownBy w' v.ownBlock := by
  rcases h.2 with ⟨rfl, h0⟩ | ⟨g, cap, cur, rfl, hB, hg, hn, hm, hs, htk⟩
  · subst h0
    clear h hl
    go_enter Try.func39, Try.ntmps39
    go_wp2
    go_loopw [1, 5] (fun t1 t wr => t1 = .int .i64 1 ∧ t = .int .i64 0 ∧ wr = w) (fun _ t _ => 0)
    case atStart => exact ⟨rfl, rfl, rfl⟩
    case round =>
      obtain ⟨rfl, rfl, rfl⟩ := hrel
      go_wp2
      go_ret
      exact ⟨rfl, ⟨_, World.ownsRow_nil _ _ _ _⟩, World.grownBy.refl _ _⟩
  · clear hg hn hm hs htk
    go_enter Try.func39, Try.ntmps39
    go_wp2
    go_loopw [1, 5] (fun t1 t5 wr => ∃ (j : Nat) (cells : List Value), t1 = .int .i64 (1 + 2 * (j : Int)) ∧ t5 = .int .i64 j ∧ j ≤ n ∧ wr.ownsRow B 82 2 (.slice (some ⟨g, 0, none⟩) n cap) n cells ∧ w.grownBy wr (some g)) (fun _ t5 _ => n - (intOf t5).toNat)
    case atStart => exact ⟨0, _, rfl, rfl, by omega, h, World.grownBy.refl _ _⟩
    case round =>
      obtain ⟨j, cells, rfl, rfl, hj, hown, hgr⟩ := hrel
      have HL : Hid (cells.length = n * 2) := hown.1
      have HG : Hid (w.grownBy wr (some g)) := hgr
      clear hgr h
      by_cases hlt : j < n
      · have HTX : Hid (∀ w, Calls Try.prog 66 #[.int .i64 (1 + 2 * (j : Int))] w fun e w' => e = .returned (.string (markT (1 + 2 * (j : Int)))) ∧ Below w.heap.size w w') := fun w => markText_any (1 + 2 * (j : Int)) w (by omega) (by omega)
        have HTX2 : Hid (∀ w, Calls Try.prog 66 #[.int .i64 (1 + 2 * (j : Int) + 1)] w fun e w' => e = .returned (.string (markT (1 + 2 * (j : Int) + 1))) ∧ Below w.heap.size w w') := fun w => markText_any (1 + 2 * (j : Int) + 1) w (by omega) (by omega)
        have HOW := hid hown
        clear hown
        go_wp2_with fail
        refine (HTX.out _).mono ?_
        rintro e w2 ⟨rfl, hb2⟩
        have hown2 := owns_below HOW.out hb2
        obtain ⟨u0, hu0⟩ : ∃ u, w2.cell? ⟨g, j * 2, none⟩ = some u := by
          rw [hown2.cellAt (j * 2) (by omega)]
          exact ⟨_, List.getElem?_eq_getElem (by rw [HL.out]; omega)⟩
        have f0 := hown2.frozenAt (j * 2)
        have HS2 := hid (hown2.stored (j * 2) (.string (markT (1 + 2 * (j : Int)))))
        have HG2 := hid (grownBy_trans HG.out (grownBy_of_below hb2 _))
        clear hown2
        go_wp2_with fail
        refine (HTX2.out _).mono ?_
        rintro e w3 ⟨rfl, hb3⟩
        have hown3 := owns_below HS2.out.1 hb3
        obtain ⟨u1, hu1⟩ : ∃ u, w3.cell? ⟨g, j * 2 + 1, none⟩ = some u := by
          rw [hown3.cellAt (j * 2 + 1) (by omega)]
          exact ⟨_, List.getElem?_eq_getElem (by rw [List.length_set, HL.out]; omega)⟩
        have f1 := hown3.frozenAt (j * 2 + 1)
        have HS3 := hid (hown3.stored (j * 2 + 1) (.string (markT (1 + 2 * (j : Int) + 1))))
        have HG3 := hid (grownBy_trans (grownBy_trans HG2.out HS2.out.2) (grownBy_of_below hb3 _))
        clear hown3
        go_wp2
        go_roundw
        case rel => exact ⟨j + 1, _, by go_num, by go_num, by omega, HS3.out.1, grownBy_trans HG3.out HS3.out.2⟩
        case measure => simp [intOf]; omega
      · obtain rfl : j = n := by omega
        go_wp2
        go_ret
        exact ⟨rfl, ⟨_, hown⟩, HG.out⟩
theorem onceBy_len (xs : List RB) (s : ByteArray) : (onceBy xs s).length ≤ 320 := by
  unfold onceBy
  split
  · rename_i h
    rw [Bool.and_eq_true] at h
    have h1 := once_len (Rs xs) (Bt s)
    have h2 := good_len h.1
    have h3 := ok_size h.2
    rw [Rs_length, ← Bt_size] at h1
    exact Nat.le_trans h1 (Nat.mul_le_mul h2 h3)
  · simp
theorem arow_of {w : World} {B n c : Nat} {a : Option Addr} {l : List ByteArray} (h : w.ownsRow B 9 1 (.slice a n c) n (strV l)) (hn : n = l.length) : ARow w a l := by
  obtain ⟨a', c', e, r⟩ := ARow.of_owned h hn
  injection e with e1 e2 e3
  rw [e1]; exact r
set_option maxHeartbeats 8000000 in
theorem lawOnce (a : Option Addr) (c : Nat) (xs : List RB) (s : ByteArray) (w : World) (hl : xs.length ≤ 9223372036854775807) (hs : ∀ x ∈ xs, Short x) (hz : s.size ≤ 9223372036854775807) (h : RRow w a xs) :
    Calls Try.prog 6 #[.slice a xs.length c, .string s] w fun e w' => e = .returned (.bool true) ∧ Below w.heap.size w w' := by
  by_cases hq : ¬ s.size ≤ 1048576
  · go_enter Try.func6, Try.ntmps6
    go_wp2
    go_ret
    exact ⟨rfl, Below.refl _ _⟩
  have hk : s.size ≤ 1048576 := by omega
  clear hq
  have CS := fun a' c' W hr => sOnceBy_any a' c' xs s W hl hs hz hr
  have CI := fun a' c' W hr => iOnceBy_any a' c' xs s W hl hs hz hr
  have hLn := onceBy_len xs s
  generalize (rulesB (Rs xs) && okB 40 (Bt s)) = p at CS CI
  generalize onceBy xs s = L at CS CI hLn
  have HCS := hid CS
  have HCI := hid CI
  clear CS CI
  have hsl := strs_strV L
  obtain ⟨ss, hss⟩ : ∃ ss, L.map Sb = ss := ⟨_, rfl⟩
  have hsn : L.length = ss.length := by rw [← hss]; simp
  rw [hss] at hsl
  simp only [hsl, hsn] at HCS HCI hLn
  clear hsl hsn hss
  cases p
  all_goals
    go_enter Try.func6, Try.ntmps6
    go_wp2_with fail
    refine (szRules_any a c xs _ hl hs h).mono ?_
    rintro e w1 ⟨⟨r, rfl, hr⟩, hb1⟩
    by_cases hr0 : r < 0
    · go_wp2
      go_ret
      exact ⟨rfl, hb1⟩
    · have hl20 : xs.length ≤ 1048576 := (hr.resolve_left hr0).1
      have h1 := h.below hb1
      go_wp2_with fail
      refine (toRules_any a c xs _ hl20 h1).mono ?_
      rintro e w2 ⟨v2, rfl, ho2, hb2⟩
      obtain ⟨a2, c2, rfl, hs2⟩ := RRow.of_owned ho2
      have B2 := bstep' hb1 hb2
      go_wp2_with fail
      refine (HCS.out a2 c2 _ hs2).mono ?_
      rintro e w3 ⟨⟨wv, rfl, hw⟩, hb3⟩
      have B3 := bstep' B2 hb3
      obtain ⟨wa, wc, rfl, hwr⟩ := ARow.of_owned hw rfl
      have HW := hid (sep_one (owns_mono hw B2.size))
      clear hw
      go_wp2_with fail
      refine (toRules_any a c xs _ hl20 (h.below B3)).mono ?_
      rintro e w4 ⟨v4, rfl, ho4, hb4⟩
      obtain ⟨a4, c4, rfl, hs4⟩ := RRow.of_owned ho4
      have B4 := bstep' B3 hb4
      have HX := hid (Sep.append HW.out hb4 B3.size (sep_one ho4))
      clear ho4
      go_wp2_with fail
      refine (HCI.out a4 c4 _ hs4).mono ?_
      rintro e w5 ⟨⟨gv, rfl, hg⟩, hb5⟩
      have B5 := bstep' B4 hb5
      obtain ⟨ga, gc, rfl, hgr⟩ := ARow.of_owned hg rfl
      have HG := hid (Sep.append HX.out hb5 B4.size (sep_one hg))
      clear hg
      go_wp2_with fail
      refine (eqStr_same ga wa gc wc ss _ (by omega) hgr ((hwr.below hb4).below hb5)).mono ?_
      rintro e w6 ⟨rfl, hb6⟩
      have B6 := bstep' B5 hb6
      go_wp2_with fail
      refine (toRules_any a c xs _ hl20 (h.below B6)).mono ?_
      rintro e w7 ⟨v7, rfl, ho7, hb7⟩
      obtain ⟨a7, c7, rfl, hs7⟩ := RRow.of_owned ho7
      have B7 := bstep' B6 hb7
      go_wp2_with fail
      refine (eqRules_same a4 a7 c4 c7 xs _ hl (((hs4.below hb5).below hb6).below hb7) hs7).mono ?_
      rintro e w8 ⟨rfl, hb8⟩
      have B8 := bstep' B7 hb8
      have HG8 := hid (((HG.out.below hb6).below hb7).below hb8)
      have hx8 := HG8.out.1 ⟨82, 2, .slice a4 xs.length c4, xs.length, flat xs⟩ (by simp)
      go_wp2_with fail
      refine (markRules_any _ _ _ _ _ hl20 hx8).mono ?_
      rintro e w9 ⟨rfl, ⟨cells, ho9⟩, hg9⟩
      have HG9 := hid (Sep.turn [⟨9, 1, .slice wa ss.length wc, ss.length, strV ss⟩] HG8.out (Below.refl _ _) hg9 ⟨82, 2, .slice a4 xs.length c4, xs.length, cells⟩ ho9 (fun k hk => .inl hk))
      have B9 : Below w.heap.size w w9 := B8.grown hg9 B8.size (fun k e => (hx8.lt k e).1)
      have hw9 := arow_of (HG9.out.1 ⟨9, 1, .slice wa ss.length wc, ss.length, strV ss⟩ (by simp)) rfl
      have hg9' := arow_of (HG9.out.1 ⟨9, 1, .slice ga ss.length gc, ss.length, strV ss⟩ (by simp)) rfl
      go_wp2_with fail
      refine (eqStr_same ga wa gc wc ss _ (by omega) hg9' hw9).mono ?_
      rintro e w10 ⟨rfl, hb10⟩
      have B10 := bstep' B9 hb10
      have HG10 := hid (HG9.out.below hb10)
      have hx10 := HG10.out.1 ⟨9, 1, .slice ga ss.length gc, ss.length, strV ss⟩ (by simp)
      go_wp2_with fail
      refine (markStr_any _ ss.length _ _ 1 _ (by omega) (by omega) hx10).mono ?_
      rintro e w11 ⟨rfl, ho11, hg11⟩
      have HG11 := hid (Sep.turn ([⟨9, 1, .slice wa ss.length wc, ss.length, strV ss⟩] ++ [⟨82, 2, .slice a4 xs.length c4, xs.length, cells⟩]) (l2 := []) (by simpa using HG10.out) (Below.refl _ _) hg11 ⟨9, 1, .slice ga ss.length gc, ss.length, strV (markA 1 ss.length)⟩ ho11 (fun k hk => .inl hk))
      have B11 : Below w.heap.size w w11 := B10.grown hg11 B10.size (fun k e => (hx10.lt k e).1)
      have hm11 := arow_of (HG11.out.1 ⟨9, 1, .slice ga ss.length gc, ss.length, strV (markA 1 ss.length)⟩ (by simp)) (markA_length _ _).symm
      have hw11 := arow_of (HG11.out.1 ⟨9, 1, .slice wa ss.length wc, ss.length, strV ss⟩ (by simp)) rfl
      clear ho9 hg9 hg11 ho11 hx8 hx10
      go_wp2_with fail
      refine (heldStr_any ga gc ss.length 1 _ (by omega) (by omega) hm11).mono ?_
      rintro e w12 ⟨rfl, hb12⟩
      have B12 := bstep' B11 hb12
      go_wp2_with fail
      refine (toRules_any a c xs _ hl20 (h.below B12)).mono ?_
      rintro e w13 ⟨v13, rfl, ho13, hb13⟩
      obtain ⟨a13, c13, rfl, hs13⟩ := RRow.of_owned ho13
      have B13 := bstep' B12 hb13
      go_wp2_with fail
      refine (HCI.out a13 c13 _ hs13).mono ?_
      rintro e w14 ⟨⟨gv, rfl, hg⟩, hb14⟩
      have B14 := bstep' B13 hb14
      obtain ⟨ga', gc', rfl, hgr'⟩ := ARow.of_owned hg rfl
      clear hg ho13
      go_wp2_with fail
      refine (eqStr_same ga' wa gc' wc ss _ (by omega) hgr' (((hw11.below hb12).below hb13).below hb14)).mono ?_
      rintro e w15 ⟨rfl, hb15⟩
      have B15 := bstep' B14 hb15
      go_wp2_with fail
      refine (heldStr_any ga gc ss.length 1 _ (by omega) (by omega) ((((hm11.below hb12).below hb13).below hb14).below hb15)).mono ?_
      rintro e w16 ⟨rfl, hb16⟩
      have B16 := bstep' B15 hb16
      go_wp2
      go_ret
      exact ⟨rfl, B16⟩
end Go.Proofs.Ytpjhmminbndgiaa
