/- What TargetOf of the program and of the model answer, at every code. -/
import Derived.Test.YthkkhinmdlmhkaaDoorEnds2
namespace Go.Proofs.YthkkhinmdlmhkaaDoor
open Go.RowKit
set_option linter.unusedVariables false
set_option linter.unusedSimpArgs false
set_option maxRecDepth 100000

/-- where a way out goes on, or nothing -/
def targetO (xs : List Stp) (at' dep : Int) : Option Int := match nestO xs with
  | none => none
  | some (e, d) => if 0 ≤ at' ∧ at' < xs.length ∧ 0 ≤ dep ∧ dep ≤ d[at'.toNat]?.getD 0 then some (specT xs e at'.toNat at'.toNat dep.toNat) else none
def tgtV : Option Int → Value
  | none => .tuple #[.int .i64 0, .bool false]
  | some t => .tuple #[.int .i64 t, .bool true]

theorem ret_int2 {k : IntKind} {a b : Int} (h : a = b) : Ending.returned (.int k a) = .returned (.int k b) := by rw [h]
/-- a depth is found again, going back -/
theorem startOf_any (nb gd L cd m s at' : Nat) (within : Int) (w : World) (hn : w.cell? ⟨nb, 2, none⟩ = some (.slice (some ⟨gd, 0, none⟩) L cd)) (hL : L ≤ 60) (ha : at' ≤ L) (hs : s < at')
    (h0 : w.cell? ⟨gd, s, none⟩ = some (.int .i64 within)) (hj : ∀ j, s < j → j < at' → ∃ v, w.cell? ⟨gd, j, none⟩ = some (.int .i64 v) ∧ v ≠ within) :
    Calls Tryd.prog 110 #[.pointer (some ⟨nb, 0, none⟩), .int .i64 at', .int .i64 within] w fun e w' => e = .returned (.int .i64 s) ∧ w' = w := by
  have HJ : Hid (∀ j, s < j → j < at' → ∃ v, w.cell? ⟨gd, j, none⟩ = some (.int .i64 v) ∧ v ≠ within) := hj
  clear hj
  go_enter Tryd.func110, Tryd.ntmps110
  go_wp2
  go_loop [7] (fun t7 => ∃ k : Nat, t7 = .int .i64 k ∧ s ≤ k ∧ k < at') (fun t7 => (intOf t7).toNat)
  case atStart => exact ⟨at' - 1, by congr 1; omega, by omega, by omega⟩
  case round =>
    obtain ⟨k, rfl, hk1, hk2⟩ := hrel
    by_cases hks : k = s
    · subst hks
      go_wp2
      go_ret
      exact ⟨rfl, rfl⟩
    · obtain ⟨v, hc, hv⟩ := HJ.out k (by omega) hk2
      go_wp2
      go_round
      case rel => exact ⟨k - 1, by congr 1; omega, by omega, by omega⟩
      case measure => simp [intOf] <;> omega

theorem specT_no {xs : List Stp} {e : List Int} {at' k dep : Nat} {p n : Int} {t : List Int} {v : Int} (hx : xs[k]? = some (p, n, t)) (hv : e[k]? = some v) (h : (opensB p && decide ((at' : Int) ≤ v)) = false) : specT xs e at' (k + 1) dep = specT xs e at' k dep := by
  have hc : ¬ (opensB (xs[k]?.getD (0, 0, [])).1 && decide ((at' : Int) ≤ e[k]?.getD 0)) = true := by rw [hx, hv]; simp only [Option.getD_some]; rw [h]; decide
  conv => lhs; unfold specT
  rw [if_neg hc]
theorem specT_down {xs : List Stp} {e : List Int} {at' k dep : Nat} {p n : Int} {t : List Int} {v : Int} (hx : xs[k]? = some (p, n, t)) (hv : e[k]? = some v) (h1 : opensB p = true) (h2 : (at' : Int) ≤ v) : specT xs e at' (k + 1) (dep + 1) = specT xs e at' k dep := by
  have hc : (opensB (xs[k]?.getD (0, 0, [])).1 && decide ((at' : Int) ≤ e[k]?.getD 0)) = true := by rw [hx, hv]; simp [h1, h2]
  conv => lhs; unfold specT
  rw [if_pos hc, if_neg (by omega)]
  rfl
theorem specT_here {xs : List Stp} {e : List Int} {at' k : Nat} {p n : Int} {t : List Int} {v : Int} (hx : xs[k]? = some (p, n, t)) (hv : e[k]? = some v) (h1 : opensB p = true) (h2 : (at' : Int) ≤ v) : specT xs e at' (k + 1) 0 = if p = 16 then (k : Int) + 1 else v + 1 := by
  have hc : (opensB (xs[k]?.getD (0, 0, [])).1 && decide ((at' : Int) ≤ e[k]?.getD 0)) = true := by rw [hx, hv]; simp [h1, h2]
  conv => lhs; unfold specT
  rw [if_pos hc, if_pos rfl, hx, hv]
  rfl

set_option maxHeartbeats 2000000 in
/-- the model's way to where a way out goes on -/
theorem l3Target_any (a : Option Addr) (c : Nat) (xs : List Stp) (ea : Option Addr) (ec : Nat) (en : List Int) (at' q : Nat) (w : World) (hl : xs.length ≤ 60) (hel : en.length = xs.length) (ha : at' ≤ xs.length) (hq : q ≤ 100) (hE : ∀ v ∈ en, v ≤ 60 ∧ -60 ≤ v) (h : TRow w a xs) (hr : Row w ea en) :
    Calls Tryd.prog 64 #[.slice a xs.length c, .slice ea en.length ec, .int .i64 at', .int .i64 q] w fun e w' => e = .returned (.int .i64 (specT xs en at' at' q)) ∧ w' = w := by
  by_cases hx : xs = []
  · subst hx
    obtain rfl : at' = 0 := by simpa using ha
    clear h hr hE
    go_enter Tryd.func64, Tryd.ntmps64
    go_wp2
    go_loop [3, 9] (fun t3 t9 => t3 = .int .i64 q ∧ t9 = .int .i64 (-1)) (fun _ _ => 0)
    case atStart => exact ⟨rfl, rfl⟩
    case round =>
      obtain ⟨rfl, rfl⟩ := hrel
      go_wp2
      go_ret
      exact ⟨rfl, rfl⟩
  · have hex : en ≠ [] := by intro h0; rw [h0] at hel; exact hx (List.eq_nil_of_length_eq_zero hel.symm)
    obtain ⟨b, off, rfl, hat⟩ := h.at hx
    obtain ⟨be, offe, rfl, hbe, hate⟩ := hr.at hex
    have HA : Hid (_) := hat
    have HE : Hid (_) := hate
    have HV : Hid (∀ v ∈ en, v ≤ 60 ∧ -60 ≤ v) := hE
    have HL : Hid (en.length = xs.length) := hel
    obtain ⟨L, hL⟩ : ∃ L, en.length = L := ⟨_, rfl⟩
    have HLX : Hid (L = xs.length) := by show L = xs.length; omega
    rw [hL]
    clear hat hate hx h hr hex hE hel hL
    go_enter Tryd.func64, Tryd.ntmps64
    go_wp2
    go_loop [3, 9] (fun t3 t9 => ∃ k dep : Nat, t3 = .int .i64 dep ∧ t9 = .int .i64 ((k : Int) - 1) ∧ k ≤ at' ∧ dep ≤ 100 ∧ specT xs en at' at' q = specT xs en at' k dep) (fun _ t9 => (intOf t9 + 1).toNat)
    case atStart => exact ⟨at', q, rfl, by go_num, by omega, hq, rfl⟩
    case round =>
      obtain ⟨k, dep, rfl, rfl, hk, hd, hsp⟩ := hrel
      have HS : Hid (specT xs en at' at' q = specT xs en at' k dep) := hsp
      clear hsp
      cases k with
      | zero =>
        go_wp2
        go_ret
        exact ⟨ret_int2 (by rw [HS.out]; rfl), rfl⟩
      | succ kk =>
        have e1 : ((kk + 1 : Nat) : Int) - 1 = kk := by omega
        rw [e1]
        obtain ⟨p, n, t, ta, tc, c1, c2, c3, hbw, hs, HR, HX⟩ := HA.out w (Below.refl _ _) kk (by omega)
        obtain ⟨v, d1, HEX⟩ := HE.out w (Below.refl _ _) kk (by have := HL.out; omega)
        have hv := HV.out v (List.mem_of_getElem? HEX.out)
        have hopn := fun w => l3Opens_any p w
        obtain ⟨u, hu⟩ : ∃ u, opensB p = u := ⟨_, rfl⟩
        rw [hu] at hopn
        have HU : Hid (opensB p = u) := hu
        have hkL : (kk : Int) < L := by have := HLX.out; omega
        clear hu e1
        cases u
        · have HN : Hid (_) := specT_no (at' := at') (dep := dep) HX.out HEX.out (by rw [HU.out]; rfl)
          go_wp2_with (go_at_call 51; refine (hopn _).mono ?_; rintro e' w' ⟨rfl, hw'⟩; subst w')
          go_round
          case rel => exact ⟨kk, dep, rfl, by go_num, by omega, hd, by rw [HS.out]; exact HN.out⟩
          case measure => simp [intOf] <;> omega
        · by_cases hav : (at' : Int) ≤ v
          · cases dep with
            | zero =>
              have hn := specT_here (at' := at') HX.out HEX.out HU.out hav
              by_cases h16 : p = 16
              · rw [if_pos h16] at hn
                have HN : Hid (_) := hn
                clear hn
                subst h16
                go_wp2_with (go_at_call 51; refine (hopn _).mono ?_; rintro e' w' ⟨rfl, hw'⟩; subst w')
                go_ret
                exact ⟨ret_int2 (by rw [HS.out, HN.out]), rfl⟩
              · rw [if_neg h16] at hn
                have HN : Hid (_) := hn
                clear hn
                go_wp2_with (go_at_call 51; refine (hopn _).mono ?_; rintro e' w' ⟨rfl, hw'⟩; subst w')
                go_ret
                exact ⟨ret_int2 (by rw [HS.out, HN.out]), rfl⟩
            | succ dd =>
              have HN : Hid (_) := specT_down (at' := at') (dep := dd) HX.out HEX.out HU.out hav
              go_wp2_with (go_at_call 51; refine (hopn _).mono ?_; rintro e' w' ⟨rfl, hw'⟩; subst w')
              go_round
              case rel => exact ⟨kk, dd, by go_num, by go_num, by omega, by omega, by rw [HS.out]; exact HN.out⟩
              case measure => simp [intOf] <;> omega
          · have HN : Hid (_) := specT_no (at' := at') (dep := dep) HX.out HEX.out (by rw [HU.out]; simp; omega)
            go_wp2_with (go_at_call 51; refine (hopn _).mono ?_; rintro e' w' ⟨rfl, hw'⟩; subst w')
            go_round
            case rel => exact ⟨kk, dep, rfl, by go_num, by omega, hd, by rw [HS.out]; exact HN.out⟩
            case measure => simp [intOf] <;> omega
end Go.Proofs.YthkkhinmdlmhkaaDoor
