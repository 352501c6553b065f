/- In which part each value comes to be: the program. -/
import Derived.Test.YteihecnmnajahaaGreatDoorImade9
import Derived.Test.YteihecnmnajahaaGreatDoorK9
import Derived.Test.YteihecnmnajahaaGreatDoorRep6
namespace Go.Proofs.YteihecnmnajahaaGreatDoor
open Go Go.RowKit
set_option linter.unusedVariables false
set_option linter.unusedSimpArgs false
set_option maxRecDepth 100000

def fillD (V i : Nat) : List Int := (List.range V).map fun v => if v < i then 0 else -1
theorem fillD_len (V i : Nat) : (fillD V i).length = V := by simp [fillD]
theorem fillD_zero (V : Nat) : fillD V 0 = List.replicate V (-1) := by
  apply List.ext_getElem?
  intro j
  by_cases h : j < V <;> simp [fillD, List.getElem?_replicate, h]
theorem fillD_twelve (V : Nat) : fillD V 12 = defs0 V := rfl
theorem fillD_set (V i : Nat) : (fillD V i).set i 0 = fillD V (i + 1) := by
  apply List.ext_getElem?
  intro j
  rw [List.getElem?_set, fillD_len]
  by_cases e : i = j
  · subst e
    by_cases h : i < V <;> simp [fillD, h]
  · rw [if_neg e]
    by_cases h : j < V
    · simp only [fillD, List.getElem?_map, List.getElem?_range h, Option.map_some]
      by_cases h2 : j < i
      · rw [if_pos h2, if_pos (by omega)]
      · rw [if_neg h2, if_neg (by omega)]
    · simp [fillD, h]
theorem rep_any (g n : Nat) (w : World) (h1 : 1 ≤ n) (h2 : n ≤ 4000) (hc : w.cell? ⟨g, 0, none⟩ = some (.int .i64 (-1))) :
    Calls Tryz.prog 80 #[.slice (some ⟨g, 0, none⟩) 1 1, .int .i64 n] w fun e w' => ∃ q, e = .returned (.slice (some ⟨q, 0, none⟩) n n) ∧ w'.ownsRow w.heap.size 3 1 (.slice (some ⟨q, 0, none⟩) n n) n (ints (fillD n 0)) ∧ Below w.heap.size w w' :=
  (repeat_any g n w h1 h2 hc).mono fun e w' ⟨h, ho, hb⟩ => ⟨_, h, by rw [fillD_zero]; exact ho, hb⟩
set_option maxHeartbeats 8000000 in
theorem defsIn_any (V : Nat) (hV : 12 ≤ V) (hV2 : V ≤ 250) (xs : List Prt) (a : Option Addr) (c : Nat) (w : World) (hxl : xs.length ≤ 11) (hxs : ∀ p ∈ xs, p.code.length ≤ 60 ∧ p.params.length ≤ 1048576 ∧ ∀ v ∈ comes p, 0 ≤ v ∧ v < (V : Int)) (hX : CRow w a xs) :
    Calls Tryz.prog 48 #[.slice a xs.length c, .int .i64 (V : Int)] w fun e w' => DefsAns w w' V xs e ∧ Below w.heap.size w w' := by
  have H := hid hX
  have HXS := hid hxs
  have HRP := hid (rep_any w.heap.size V (w.alloc (.cells #[.int .i64 (-1)] 3)) (by omega) (by omega) (by simp [go_sem]))
  clear hX hxs
  go_enter Tryz.func48, Tryz.ntmps48
  go_wp2_with (go_at_call 80; refine HRP.out.mono ?_; rintro e w1 ⟨g, rfl, ho1, hb1⟩)
  have bb := below1 w (.cells #[.int .i64 (-1)] 3)
  have HB1 := hid (bstep' bb hb1)
  have HS1 := hid (sep_one (owns_mono ho1 bb.size))
  clear ho1 hb1 bb HRP
  go_wp2
  go_loopw [14] (fun t14 wr => ∃ (i : Nat), t14 = .int .i64 i ∧ i ≤ 12 ∧ Hid (Sep wr w.heap.size ([] ++ ⟨3, 1, .slice (some ⟨g, 0, none⟩) V V, V, ints (fillD V i)⟩ :: [])) ∧ Hid (Below w.heap.size w wr)) (fun t14 _ => 12 - (intOf t14).toNat)
  case atStart => exact ⟨0, rfl, by omega, HS1, HB1⟩
  case round =>
    obtain ⟨i, rfl, hi, HS, HB⟩ := hrel
    clear HS1 HB1
    have ho := HS.out.1 ⟨3, 1, .slice (some ⟨g, 0, none⟩) V V, V, ints (fillD V i)⟩ (by simp)
    by_cases hlt : (i : Int) < 12
    · obtain ⟨q, hq⟩ : ∃ q, (fillD V i)[i]? = some q := ⟨_, List.getElem?_eq_getElem (by rw [fillD_len]; omega)⟩
      have cq : wr.cell? ⟨g, i, none⟩ = some (.int .i64 q) := rowT_at ho rfl (by simp [ints, hq])
      have fq : wr.frozen? ⟨g, i, none⟩ = false := rowT_frz ho rfl i
      have hgs := (ho.lt g rfl).1
      have hiV : (i : Int) < V := by omega
      clear ho hq
      go_wp2
      go_roundw
      case rel =>
        refine ⟨i + 1, by go_num, by omega, ?_, HB.out.setCell (p := ⟨g, i, none⟩) hgs _⟩
        show Sep _ _ _
        have hst := Sep.store [] HS.out i (.int .i64 0)
        have e1 : (ints (fillD V i)).set i (.int .i64 0) = ints (fillD V (i + 1)) := by rw [← fillD_set]; simp [ints]
        rw [e1] at hst; exact hst
      case measure => simp [intOf]; omega
    · obtain rfl : i = 12 := by omega
      rw [fillD_twelve] at HS
      have HE := hid (show defsFrom V 0 (xs.take 0) (defs0 V) = some (defs0 V) from rfl)
      clear ho
      go_wp2
      go_loopw [23] (fun t23 wr => ∃ (k : Nat) (D : List Int), t23 = .int .i64 k ∧ k ≤ xs.length ∧ Hid (defsFrom V 0 (xs.take k) (defs0 V) = some D) ∧ Hid (Sep wr w.heap.size ([] ++ ⟨3, 1, .slice (some ⟨g, 0, none⟩) V V, V, ints D⟩ :: [])) ∧ Hid (Below w.heap.size w wr)) (fun t23 _ => xs.length - (intOf t23).toNat)
      case atStart => exact ⟨0, _, rfl, by omega, HE, HS, HB⟩
      case round =>
        obtain ⟨k, D, rfl, hk, HD, HS2, HB2⟩ := hrel
        have HDL : Hid (D.length = V) := (defsFrom_len HD.out).trans (defs0_len V)
        clear HS HB HE
        by_cases hkx : k < xs.length
        · obtain ⟨b, off, rfl, hbw, hat⟩ := H.out.at (by intro e; subst e; simp at hkx)
          obtain ⟨ps, cs, go, test, ns, rs, pa, pc, ca, cc, na, nc, ra, rc, c0, c1, c2, c3, c4, c5, l1, l2, l3, l4, HI, HX⟩ := hat wr HB2.out k hkx
          obtain ⟨m1, m2, m3⟩ := HXS.out _ (List.mem_of_getElem? HX.out)
          obtain ⟨p, hp⟩ : ∃ p : Prt, p = ⟨ps, cs, go, test, ns, rs⟩ := ⟨_, rfl⟩
          rw [← hp] at m1 m2 m3 HX
          have HCO := hid (comesToBe_any b (off + k * 6) p pa ca pc cc wr (by omega) m1 (by rw [hp]; exact c0) (by rw [hp]; exact c4) (by rw [hp]; exact HI.out.code) (by rw [hp]; exact HI.out.params) (fun x hx hs => by
            have hv : x.dst ∈ comes p := by
              simp only [comes, made, List.mem_append, List.mem_map, List.mem_filter]
              exact .inr ⟨x, ⟨hx, hs⟩, rfl⟩
            have := m3 _ hv
            omega))
          obtain ⟨acc, hacc⟩ : ∃ l, comes p = l := ⟨_, rfl⟩
          rw [hacc] at HCO m3
          have HACC := hid hacc
          have HM3 := hid m3
          have hal : acc.length ≤ 1048636 := by rw [← hacc]; unfold comes; rw [List.length_append]; have := made_len p.code; omega
          have HEND : Hid (∀ j, puts V k D (acc.take j) = none → defsL V xs = none) := fun j hn => by
            refine defsFrom_none (j := k + 1) ?_
            rw [defsFrom_take HX.out, HD.out, HACC.out]
            exact puts_none hn
          have HNXT : Hid (∀ D', puts V k D acc = some D' → defsFrom V 0 (xs.take (k + 1)) (defs0 V) = some D') := fun D' hp => by
            rw [defsFrom_take HX.out, HD.out, HACC.out]; exact hp
          clear hat m3 hacc hp c0 c1 c2 c3 c4 c5
          go_wp2_with (go_at_call 81; refine HCO.out.mono ?_; rintro e w2 ⟨va, vc2, rfl, ho2, hb2⟩)
          have HS3 : Hid (Sep w2 w.heap.size ([] ++ ⟨3, 1, .slice (some ⟨g, 0, none⟩) V V, V, ints D⟩ :: [⟨3, 1, .slice va acc.length vc2, acc.length, ints acc⟩])) := show Sep w2 w.heap.size ([⟨3, 1, .slice (some ⟨g, 0, none⟩) V V, V, ints D⟩] ++ [⟨3, 1, .slice va acc.length vc2, acc.length, ints acc⟩]) from Sep.append (l := [⟨3, 1, .slice (some ⟨g, 0, none⟩) V V, V, ints D⟩]) HS2.out hb2 HB2.out.size (sep1 (x := ⟨3, 1, .slice va acc.length vc2, acc.length, ints acc⟩) ho2)
          have HB3 := hid (bstep' HB2.out hb2)
          clear ho2 hb2 HCO HS2
          go_wp2
          go_loopw [31] (fun t31 wr => ∃ (j : Nat) (D' : List Int), t31 = .int .i64 j ∧ j ≤ acc.length ∧ Hid (puts V k D (acc.take j) = some D') ∧ Hid (Sep wr w.heap.size ([] ++ ⟨3, 1, .slice (some ⟨g, 0, none⟩) V V, V, ints D'⟩ :: [⟨3, 1, .slice va acc.length vc2, acc.length, ints acc⟩])) ∧ Hid (Below w.heap.size w wr)) (fun t31 _ => acc.length - (intOf t31).toNat)
          case atStart => exact ⟨0, D, rfl, by omega, rfl, HS3, HB3⟩
          case round =>
            obtain ⟨j, D', rfl, hj, HP, HS6, HB6⟩ := hrel
            have HDL2 : Hid (D'.length = V) := (puts_len HP.out).trans HDL.out
            clear HS3 HB3
            by_cases hjt : j < acc.length
            · obtain ⟨v, hv⟩ : ∃ v, acc[j]? = some v := ⟨_, List.getElem?_eq_getElem hjt⟩
              have hlo := HS6.out.1 ⟨3, 1, .slice va acc.length vc2, acc.length, ints acc⟩ (by simp)
              obtain ⟨lg, hlg⟩ : ∃ lg, va = some ⟨lg, 0, none⟩ := by
                rcases hlo.2 with ⟨h0, h1⟩ | ⟨g', cap, cur, he, _⟩
                · simp only [] at h1; omega
                · injection he with e1 _ _; exact ⟨g', e1⟩
              subst hlg
              have cv : wr.cell? ⟨lg, j, none⟩ = some (.int .i64 v) := rowT_at hlo rfl (by simp [ints, hv])
              have HT2 : Hid (puts V k D (acc.take (j + 1)) = put1 V k D' v) := by
                show _ = _
                rw [puts_take hv, HP.out]; rfl
              obtain ⟨v0, v1⟩ := HM3.out v (List.mem_of_getElem? hv)
              clear hlo hv
              obtain ⟨m, hm⟩ : ∃ m : Nat, v = m := ⟨v.toNat, by omega⟩
              subst hm
              have hmV : m < V := by omega
              obtain ⟨q, hq⟩ : ∃ q, D'[m]? = some q := ⟨_, List.getElem?_eq_getElem (by rw [HDL2.out]; exact hmV)⟩
              have hdo := HS6.out.1 ⟨3, 1, .slice (some ⟨g, 0, none⟩) V V, V, ints D'⟩ (by simp)
              have cq : wr.cell? ⟨g, m, none⟩ = some (.int .i64 q) := rowT_at hdo rfl (by simp [ints, hq])
              have fq : wr.frozen? ⟨g, m, none⟩ = false := rowT_frz hdo rfl m
              have hgs := (hdo.lt g rfl).1
              have HQ := hid hq
              clear hdo hq
              by_cases hqn : q = -1
              · subst hqn
                go_wp2
                go_roundw
                case rel =>
                  refine ⟨j + 1, D'.set m (k : Int), by go_num, by omega, ?_, ?_, HB6.out.setCell (p := ⟨g, m, none⟩) hgs _⟩
                  · show _ = _
                    rw [HT2.out]; unfold put1; rw [if_pos ⟨by omega, by omega, by rw [Int.toNat_natCast, HQ.out]⟩, Int.toNat_natCast]
                  · show Sep _ _ _
                    have hst := Sep.store [] HS6.out m (.int .i64 (k : Int))
                    have e1 : (ints D').set m (.int .i64 (k : Int)) = ints (D'.set m (k : Int)) := by simp [ints]
                    rw [e1] at hst; exact hst
                case measure => simp [intOf]; omega
              · have HBAD : Hid (defsL V xs = none) := HEND.out (j + 1) (by rw [HT2.out]; unfold put1; rw [if_neg (by rw [Int.toNat_natCast, HQ.out]; intro h; exact hqn (Option.some.inj h.2.2))])
                have hne : ((q != -1) : Bool) = true := by simp [hqn]
                go_wp2
                go_ret2
                exact ⟨.inl ⟨HBAD.out, rfl⟩, HB6.out⟩
            · obtain rfl : j = acc.length := by omega
              rw [List.take_of_length_le (Nat.le_refl _)] at HP
              have HS7 : Hid (Sep wr w.heap.size ([] ++ ⟨3, 1, .slice (some ⟨g, 0, none⟩) V V, V, ints D'⟩ :: [])) := HS6.out.sub (by simp)
              have HNX := hid (HNXT.out _ HP.out)
              go_wp2
              go_roundw
              case rel => exact ⟨k + 1, D', by go_num, by omega, HNX, HS7, HB6⟩
              case measure => simp [intOf]; omega
        · obtain rfl : k = xs.length := by omega
          rw [List.take_of_length_le (Nat.le_refl _)] at HD
          have HD2 : Hid (defsL V xs = some D) := HD.out
          have ho := one_sep HS2.out
          have HO := hid ho
          clear ho HD
          go_wp2
          go_ret2
          refine ⟨.inr ⟨D, some ⟨g, 0, none⟩, V, HD2.out, by rw [HDL.out] <;> rfl, ?_⟩, HB2.out⟩
          rw [HDL.out]
          exact HO.out
end Go.Proofs.YteihecnmnajahaaGreatDoor
