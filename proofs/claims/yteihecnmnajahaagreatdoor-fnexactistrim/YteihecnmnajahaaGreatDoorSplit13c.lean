/- Critical edges: the program. -/
import Derived.Test.YteihecnmnajahaaGreatDoorSplit13
namespace Go.Proofs.YteihecnmnajahaaGreatDoor
open Go Go.RowKit
set_option linter.unusedVariables false
set_option linter.unusedSimpArgs false
set_option maxRecDepth 100000

theorem eltE : Elt 54 95 2 16 := by
  obtain ⟨i0, hi, hz0, hz1, hz2⟩ := info_parts (show (Tryz.prog.info? 95).map (fun i => (i.zero, i.size, i.bytes)) = some (some (.agg #[.int .i64 0, .int .i64 0]), 2, 16) by kernel_rfl)
  exact ⟨i0, _, Tryz.underlying54, hi, hz0, hz1, hz2, rfl, by omega, by omega⟩
theorem News.twoE (w : World) (v0 v1 : Value) (nb : Nat) (hnb : w.heap.size = nb) (h : ∀ u ∈ [v0, v1], u.oneCell' = true) : News (w.alloc (.cells #[v0, v1] 95)) (some ⟨nb, 0, none⟩) 1 2 [v0, v1] := by
  subst hnb
  refine ⟨rfl, h, .inr ⟨_, rfl, fun j u hj => ?_⟩⟩
  rw [addr_add]
  match j, hj with
  | 0, hj => simp at hj; subst hj; simp [go_sem]
  | 1, hj => simp at hj; subst hj; simp [go_sem]
theorem forks_any (b o : Nat) (n nc : Nat) (na : Option Addr) (w : World) (hc : w.cell? ⟨b, o + 3, none⟩ = some (.slice na n nc)) :
    Calls Tryz.prog 64 #[.pointer (some ⟨b, o, none⟩)] w fun e w' => e = .returned (.bool (decide (1 < n))) ∧ w' = w := by
  go_enter Tryz.func64, Tryz.ntmps64
  go_wp2
  go_ret
  exact ⟨by simp <;> omega, rfl⟩
set_option maxHeartbeats 8000000 in
theorem edgesInto_any (xs : List Prt) (a : Option Addr) (c : Nat) (w : World) (h1 : 1 ≤ xs.length) (hxl : xs.length ≤ 11) (hE : ∀ p ∈ xs, EdgeIn xs p) (hX : CRow w a xs) :
    Calls Tryz.prog 63 #[.slice a xs.length c] w fun e w' => ∃ va vc, e = .returned (.slice va xs.length vc) ∧ w'.ownsRow w.heap.size 3 1 (.slice va xs.length vc) xs.length (ints (cnt xs.length (nexts xs))) ∧ Below w.heap.size w w' := by
  obtain ⟨i0, hi0, hz0, hz1, hz2⟩ := info_parts info3
  have HX := hid hX
  have HE := hid hE
  clear hX hE
  go_enter Tryz.func63, Tryz.ntmps63
  go_upto_region 2 with (at_make; refine wpList_make_full _ rfl _ _ 35 rfl w.heap.size 3 i0 (.int .i64 0) 1 Tryz.underlying35 hi0 hz0 hz1 .i64 .i64 _ _ xs.length rfl rfl rfl rfl ?c1 ?c2 ?c3 ?_)
  case c1 => rw [hz2]; omega
  case c2 => unfold maxLen; omega
  case c3 => omega
  intro w1 hown0 hgrow0
  have HB1 : Hid (Below w.heap.size w w1) := (Below.refl _ w).grown hgrow0 (Nat.le_refl _) (fun k hk => by cases hk)
  have HS1 : Hid (Sep w1 w.heap.size ([] ++ ⟨3, 1, .slice (some ⟨w.heap.size, 0, none⟩) xs.length xs.length, xs.length, ints (cnt xs.length (nexts (xs.take 0)))⟩ :: [])) := by
    rw [made_ints, ← cnt_nil] at hown0
    exact sep_one hown0
  clear hown0 hgrow0
  go_wp2
  go_loopw [13] (fun t13 wr => ∃ (k : Nat), t13 = .int .i64 k ∧ k ≤ xs.length ∧ Hid (Sep wr w.heap.size ([] ++ ⟨3, 1, .slice (some ⟨w.heap.size, 0, none⟩) xs.length xs.length, xs.length, ints (cnt xs.length (nexts (xs.take k)))⟩ :: [])) ∧ Hid (Below w.heap.size w wr)) (fun t13 _ => xs.length - (intOf t13).toNat)
  case atStart => exact ⟨0, rfl, by omega, HS1, HB1⟩
  case round =>
    obtain ⟨k, rfl, hk, HS, HB⟩ := hrel
    clear HS1 HB1
    by_cases hkx : k < xs.length
    · obtain ⟨b, off, rfl, hbw, hat⟩ := HX.out.at (by intro e; subst e; simp at hkx)
      obtain ⟨ps, cs, go, test, ns, rs, pa, pc, ca, cc, na, nc, ra, rc, c0, c1, c2, c3, c4, c5, l1, l2, l3, l4, HI, HXK⟩ := hat w (Below.refl _ _) k hkx
      replace c0 := cell_below c0 HB.out
      replace c1 := cell_below c1 HB.out
      replace c2 := cell_below c2 HB.out
      replace c3 := cell_below c3 HB.out
      replace c4 := cell_below c4 HB.out
      replace c5 := cell_below c5 HB.out
      have HEI := hid (HE.out _ (List.mem_of_getElem? HXK.out))
      have hn6 := HEI.out.few
      simp only [] at hn6
      have HSN := hid (nexts_snoc HXK.out)
      have HDN : Hid ((nexts (xs.take k)).length ≤ 66) := Nat.le_trans (nexts_len (V := 0) (fun p hp => (HE.out p (List.mem_of_mem_take hp)).few)) (by rw [List.length_take]; omega)
      obtain ⟨acc, hacc⟩ : ∃ l, nexts (xs.take k) = l := ⟨_, rfl⟩
      rw [hacc] at HS HSN HDN
      have bF := below1 wr (.cells #[.slice ca cs.length cc, .int .i64 go, .int .i64 test, .slice na ns.length nc, .slice pa ps.length pc, .slice ra rs.length rc] 74)
      have HS2 := hid (HS.out.below bF)
      have HB2 := hid (bstep' HB.out bF)
      have HNR := hid HI.out.next
      clear hat HI hacc bF
      go_wp2
      go_loopw [21] (fun tt wr => ∃ (i : Nat), tt = .int .i64 i ∧ i ≤ ns.length ∧ Hid (Sep wr w.heap.size ([] ++ ⟨3, 1, .slice (some ⟨w.heap.size, 0, none⟩) xs.length xs.length, xs.length, ints (cnt xs.length (acc ++ ns.take i))⟩ :: [])) ∧ Hid (Below w.heap.size w wr)) (fun tt _ => ns.length - (intOf tt).toNat)
      case atStart => exact ⟨0, rfl, by omega, (by show Sep _ _ _; simpa using HS2.out), HB2⟩
      case round =>
        obtain ⟨i, rfl, hi, HSI, HBI⟩ := hrel
        clear HS2 HB2
        by_cases hit : i < ns.length
        · obtain ⟨tb, toff, rfl, htb, htat⟩ := HNR.out.at (by intro e; subst e; simp at hit)
          obtain ⟨v, cv, HVV⟩ := htat wr HBI.out i hit
          obtain ⟨v0, v1⟩ := HEI.out.lead v (List.mem_of_getElem? HVV.out)
          obtain ⟨m, hm⟩ : ∃ m : Nat, v = m := ⟨v.toNat, by omega⟩
          subst hm
          have hmV : m < xs.length := by omega
          have HTS := hid (take_snoc HVV.out)
          have hdo := HSI.out.1 ⟨3, 1, .slice (some ⟨w.heap.size, 0, none⟩) xs.length xs.length, xs.length, ints (cnt xs.length (acc ++ ns.take i))⟩ (by simp)
          have hcl : (acc ++ ns.take i).count (m : Int) ≤ 100000 := Nat.le_trans List.count_le_length (by have h8 := HDN.out; rw [List.length_append, List.length_take]; omega)
          have hst := count_store HSI.out hmV
          obtain ⟨L, hL⟩ : ∃ L, acc ++ ns.take i = L := ⟨_, rfl⟩
          rw [hL] at hdo hcl hst
          obtain ⟨q, hq⟩ : ∃ q, L.count (m : Int) = q := ⟨_, rfl⟩
          have cq : wr.cell? ⟨w.heap.size, m, none⟩ = some (.int .i64 (q : Int)) := rowT_at hdo rfl (by rw [← hq]; simp [ints, cnt_at L hmV])
          have fq : wr.frozen? ⟨w.heap.size, m, none⟩ = false := rowT_frz hdo rfl m
          have hgs := (hdo.lt w.heap.size rfl).1
          rw [hq] at hst hcl
          have HST := hid hst
          have HL := hid hL
          clear htat hdo hst hL hq
          go_wp2
          go_roundw
          case rel =>
            refine ⟨i + 1, by go_num, by omega, ?_, HBI.out.setCell (p := ⟨w.heap.size, m, none⟩) hgs _⟩
            show Sep _ _ _
            rw [HTS.out, ← List.append_assoc, HL.out]
            exact HST.out
          case measure => simp [intOf]; omega
        · obtain rfl : i = ns.length := by omega
          rw [List.take_of_length_le (Nat.le_refl _)] at HSI
          have HS7 : Hid (Sep wr w.heap.size ([] ++ ⟨3, 1, .slice (some ⟨w.heap.size, 0, none⟩) xs.length xs.length, xs.length, ints (cnt xs.length (nexts (xs.take (k + 1))))⟩ :: [])) := by
            show Sep _ _ _
            rw [HSN.out]
            exact HSI.out
          go_wp2
          go_roundw
          case rel => exact ⟨k + 1, by go_num, by omega, HS7, HBI⟩
          case measure => simp [intOf]; omega
    · obtain rfl : k = xs.length := by omega
      rw [List.take_of_length_le (Nat.le_refl _)] at HS
      go_wp2
      go_ret
      exact ⟨_, _, rfl, one_sep HS.out, HB.out⟩
set_option maxHeartbeats 8000000 in
theorem edgesToSplit_any (xs : List Prt) (a : Option Addr) (c : Nat) (w : World) (h1 : 1 ≤ xs.length) (hxl : xs.length ≤ 11) (hE : ∀ p ∈ xs, EdgeIn xs p) (hX : CRow w a xs) :
    Calls Tryz.prog 34 #[.slice a xs.length c] w fun e w' => ∃ va vc n, e = .returned (.slice va n vc) ∧ (n = 0 ↔ noCrit xs) ∧ n ≤ 66 ∧ Below w.heap.size w w' := by
  have H63 := hid (edgesInto_any xs a c w h1 hxl hE hX)
  have HX := hid hX
  have HE := hid hE
  obtain ⟨V, hV⟩ : ∃ V, xs.length = V := ⟨_, rfl⟩
  have HV := hid hV
  have hV1 : 1 ≤ V := by omega
  have HCB : Hid (∀ m : Nat, (nexts xs).count (m : Int) ≤ 66) := fun m => Nat.le_trans List.count_le_length (Nat.le_trans (nexts_len (V := 0) (fun p hp => (HE.out p hp).few)) (by omega))
  rw [hV] at H63 ⊢
  clear hX hE h1
  go_enter Tryz.func34, Tryz.ntmps34
  go_upto_region 3 with (go_at_call 63; refine H63.out.mono ?_; rintro e w1 ⟨ia, ic, rfl, ho1, hb1⟩)
  obtain ⟨g, hg⟩ : ∃ g, ia = some ⟨g, 0, none⟩ := by
    rcases ho1.2 with ⟨h0, h1⟩ | ⟨g', cap, cur, he, _⟩
    · omega
    · injection he with e1 _ _; exact ⟨g', e1⟩
  subst hg
  obtain ⟨IR, hIR⟩ : ∃ r : OR, ⟨3, 1, .slice (some ⟨g, 0, none⟩) V ic, V, ints (cnt V (nexts xs))⟩ = r := ⟨_, rfl⟩
  have HIR := hid hIR
  have HS1 : Hid (Sep w1 w.heap.size ([IR] ++ ⟨95, 2, .slice none 0 0, 0, []⟩ :: [])) := by
    have h9 := sep1 (x := ⟨3, 1, .slice (some ⟨g, 0, none⟩) V ic, V, ints (cnt V (nexts xs))⟩) ho1
    rw [hIR] at h9
    exact Sep.append h9 (Below.refl _ _) hb1.size (sep1 (x := ⟨95, 2, .slice none 0 0, 0, []⟩) (World.ownsRow_nil _ _ _ _))
  have HB1 := hid hb1
  clear ho1 hb1 hIR H63
  go_wp2
  go_loopw [3, 13] (fun t3 t13 wr => ∃ (k n : Nat) (va : Option Addr) (vc : Nat) (cells : List Value), t13 = .int .i64 k ∧ k ≤ V ∧ t3 = .slice va n vc ∧ n ≤ 6 * k ∧ Hid (n = 0 ↔ ∀ j p, j < k → xs[j]? = some p → ∀ i, i < p.next.length → critE xs p i = false) ∧ Hid (Sep wr w.heap.size ([IR] ++ ⟨95, 2, .slice va n vc, n, cells⟩ :: [])) ∧ Hid (Below w.heap.size w wr)) (fun _ t13 _ => V - (intOf t13).toNat)
  case atStart => exact ⟨0, 0, none, 0, [], rfl, by omega, rfl, by omega, (by show _ ↔ _; simp), HS1, HB1⟩
  case round =>
    obtain ⟨k, n, va, vc, cells, rfl, hk, rfl, hn, HF, HS, HB⟩ := hrel
    clear HS1 HB1
    by_cases hkx : k < V
    · obtain ⟨b, off, rfl, hbw, hat⟩ := HX.out.at (by intro e; rw [e] at hV; simp at hV; omega)
      obtain ⟨ps, cs, go, test, ns, rs, pa, pc, ca, cc, na, nc, ra, rc, c0, c1, c2, c3, c4, c5, l1, l2, l3, l4, HI, HXK⟩ := hat w (Below.refl _ _) k (by omega)
      have HEI := hid (HE.out _ (List.mem_of_getElem? HXK.out))
      have hn6 := HEI.out.few
      have hna := HEI.out.args
      simp only [] at hn6 hna
      have HK := hid (fun (W : World) (h : Below w.heap.size w W) => And.intro (cell_below c3 h) (cell_below c5 h))
      have HII := hid (And.intro HI.out.next HI.out.args)
      obtain ⟨p3, p5⟩ := HK.out wr HB.out
      clear hat HI c0 c1 c2 c3 c4 c5
      go_wp2
      clear p3 p5
      go_loopw [3, 25] (fun t3 t25 wr => ∃ (i m : Nat) (va : Option Addr) (vc : Nat) (cells : List Value), t25 = .int .i64 i ∧ i ≤ ns.length ∧ t3 = .slice va m vc ∧ m ≤ n + i ∧ Hid (m = 0 ↔ (n = 0 ∧ ∀ j, j < i → critE xs ⟨ps, cs, go, test, ns, rs⟩ j = false)) ∧ Hid (Sep wr w.heap.size ([IR] ++ ⟨95, 2, .slice va m vc, m, cells⟩ :: [])) ∧ Hid (Below w.heap.size w wr)) (fun _ t25 _ => ns.length - (intOf t25).toNat)
      case atStart => exact ⟨0, n, va, vc, cells, rfl, by omega, rfl, by omega, (by show _ ↔ _; simp), HS, HB⟩
      case round =>
        obtain ⟨i, m, va, vc, cells, rfl, hi, rfl, hm, HFI, HSI, HBI⟩ := hrel
        obtain ⟨p3, p5⟩ := HK.out wr HBI.out
        by_cases hit : i < ns.length
        · obtain ⟨tb, toff, rfl, htb, htat⟩ := HII.out.1.at (by intro e; subst e; simp at hit)
          obtain ⟨v, cv, HVV⟩ := htat wr HBI.out i hit
          obtain ⟨rb, roff, rfl, hrb, rat⟩ := HII.out.2.at (by intro e; rw [e] at hna; simp only [List.length_nil] at hna; omega)
          obtain ⟨t, ta, tc, rv, tl, HRT, HT⟩ := rat wr HBI.out i (by omega)
          obtain ⟨v0, v1⟩ := HEI.out.lead v (List.mem_of_getElem? HVV.out)
          obtain ⟨x, hx⟩ : ∃ x : Nat, v = x := ⟨v.toNat, by omega⟩
          subst hx
          have hxV : x < V := by have := HV.out; omega
          have HC : Hid (critE xs ⟨ps, cs, go, test, ns, rs⟩ i = (decide (1 < ns.length) && (decide (0 < t.length) && decide (1 < (nexts xs).count (x : Int))))) := by
            show _ = _
            simp only [critE]
            rw [HT.out, HVV.out]
            rfl
          obtain ⟨q, hq⟩ : ∃ q, (nexts xs).count (x : Int) = q := ⟨_, rfl⟩
          have hqb : q ≤ 66 := by rw [← hq]; exact HCB.out x
          have hio : wr.ownsRow w.heap.size 3 1 (.slice (some ⟨g, 0, none⟩) V ic) V (ints (cnt V (nexts xs))) := HSI.out.1 ⟨3, 1, .slice (some ⟨g, 0, none⟩) V ic, V, ints (cnt V (nexts xs))⟩ (by rw [HIR.out]; simp)
          have cq : wr.cell? ⟨g, x, none⟩ = some (.int .i64 (q : Int)) := rowT_at hio rfl (by rw [← hq]; simp [ints, cnt_at _ hxV])
          rw [hq] at HC
          have H64 := hid (forks_any b (off + k * 6) ns.length nc (some ⟨tb, toff, none⟩) wr p3)
          have HSTEP : Hid (∀ z, critE xs ⟨ps, cs, go, test, ns, rs⟩ i = z → ((∀ j, j < i + 1 → critE xs ⟨ps, cs, go, test, ns, rs⟩ j = false) ↔ ((∀ j, j < i → critE xs ⟨ps, cs, go, test, ns, rs⟩ j = false) ∧ z = false))) := fun z hz => by
            constructor
            · intro h
              exact ⟨fun j hj => h j (by omega), by rw [← hz]; exact h i (by omega)⟩
            · rintro ⟨h, h2⟩ j hj
              by_cases e : j = i
              · subst e; rw [hz]; exact h2
              · exact h j (by omega)
          clear htat rat HRT hio hq
          by_cases hall : 1 < ns.length ∧ (t ≠ [] ∧ 1 < q)
          · obtain ⟨g1, g2, g3⟩ := hall
            have g1' : (1 : Int) < ns.length := by omega
            have g3' : (1 : Int) < q := by omega
            have g2p : 0 < t.length := List.length_pos_iff.2 g2
            have g2' : (0 : Int) < t.length := by omega
            have HZ : Hid (critE xs ⟨ps, cs, go, test, ns, rs⟩ i = true) := by show _ = _; rw [HC.out, decide_eq_true g1, decide_eq_true g2p, decide_eq_true g3]; rfl
            have b1 := below1 wr (.cells #[.int .i64 k, .int .i64 i] 95)
            have HN := hid (News.twoE wr (.int .i64 k) (.int .i64 i) wr.heap.size rfl (by simp [Value.oneCell']))
            have HSA := hid (HSI.out.below b1)
            have HBA := hid (bstep' HBI.out b1)
            rw [decide_eq_true g1] at H64
            clear b1
            go_wp2_with (first | (go_at_call 64; refine H64.out.mono ?_; rintro e w5 ⟨rfl, rfl⟩) | (at_builtin; refine wpList_append_sep eltE rfl _ _ rfl w.heap.size [IR] HSA.out rfl HN.out rfl (by omega) HBA.out.size ?_))
            intro va2 vc2 w6 hs6 hb6 hg6
            have HS6 := hid hs6
            have HB6 := hid (HBA.out.trans hb6)
            clear hs6 hb6 hg6
            go_wp2
            go_roundw
            case rel =>
              refine ⟨i + 1, m + 1, va2, vc2, _, by go_num, by omega, rfl, by omega, ?_, HS6, HB6⟩
              show _ ↔ _
              rw [HSTEP.out true HZ.out]
              simp
            case measure => simp [intOf]; omega
          · have HZ : Hid (critE xs ⟨ps, cs, go, test, ns, rs⟩ i = false) := by
              show _ = _
              rw [HC.out]
              by_cases g1 : 1 < ns.length
              · by_cases g2 : t = []
                · subst g2; simp
                · have g3 : ¬ 1 < q := fun h => hall ⟨g1, g2, h⟩
                  rw [decide_eq_false g3]; simp
              · rw [decide_eq_false g1]; rfl
            have HREL : Hid (m = 0 ↔ (n = 0 ∧ ∀ j, j < i + 1 → critE xs ⟨ps, cs, go, test, ns, rs⟩ j = false)) := by
              show _ ↔ _
              rw [HSTEP.out false HZ.out, HFI.out]
              simp
            by_cases g1 : 1 < ns.length
            · have g1' : (1 : Int) < ns.length := by omega
              rw [decide_eq_true g1] at H64
              by_cases g3 : 1 < q
              · have g3' : (1 : Int) < q := by omega
                have g2 : t = [] := Classical.byContradiction fun h => hall ⟨g1, h, g3⟩
                subst g2
                clear hall
                go_wp2_with (go_at_call 64; refine H64.out.mono ?_; rintro e w5 ⟨rfl, rfl⟩)
                go_roundw
                case rel => exact ⟨i + 1, m, va, vc, cells, by go_num, by omega, rfl, by omega, HREL, HSI, HBI⟩
                case measure => simp [intOf]; omega
              · have g3' : ¬ (1 : Int) < q := by omega
                clear hall
                go_wp2_with (go_at_call 64; refine H64.out.mono ?_; rintro e w5 ⟨rfl, rfl⟩)
                go_roundw
                case rel => exact ⟨i + 1, m, va, vc, cells, by go_num, by omega, rfl, by omega, HREL, HSI, HBI⟩
                case measure => simp [intOf]; omega
            · rw [decide_eq_false g1] at H64
              clear hall
              go_wp2_with (go_at_call 64; refine H64.out.mono ?_; rintro e w5 ⟨rfl, rfl⟩)
              go_roundw
              case rel => exact ⟨i + 1, m, va, vc, cells, by go_num, by omega, rfl, by omega, HREL, HSI, HBI⟩
              case measure => simp [intOf]; omega
        · obtain rfl : i = ns.length := by omega
          have HF2 : Hid (m = 0 ↔ ∀ j p, j < k + 1 → xs[j]? = some p → ∀ i, i < p.next.length → critE xs p i = false) := by
            show _ ↔ _
            rw [HFI.out, HF.out]
            constructor
            · rintro ⟨h1, h2⟩ j p hj hp
              by_cases e : j = k
              · subst e; rw [HXK.out] at hp; cases hp; exact h2
              · exact h1 j p (by omega) hp
            · intro h
              exact ⟨fun j p hj hp => h j p (by omega) hp, h k _ (by omega) HXK.out⟩
          go_wp2
          go_roundw
          case rel => exact ⟨k + 1, m, va, vc, cells, by go_num, by omega, rfl, by omega, HF2, HSI, HBI⟩
          case measure => simp [intOf]; omega
    · obtain rfl : k = V := by omega
      have HFIN : Hid (n = 0 ↔ noCrit xs) := by
        show _ ↔ _
        rw [HF.out]
        constructor
        · intro h p hp
          obtain ⟨j, hj⟩ := List.mem_iff_getElem?.1 hp
          exact h j p (by have := (List.getElem?_eq_some_iff.1 hj).1; have := HV.out; omega) hj
        · intro h j p hj hp
          exact h p (List.mem_of_getElem? hp)
      go_wp2
      go_ret
      exact ⟨_, _, n, rfl, HFIN.out, by omega, HB.out⟩
set_option maxHeartbeats 4000000 in
theorem iIsSplit_any (V : Int) (xs : List Prt) (a : Option Addr) (c : Nat) (w : World) (G B : Bool) (hD : SplitIs V xs G B) (hl : xs.length ≤ 9223372036854775807) (hs : sumP xs ≤ 1048576) (hT : Tab w) (hX : PRow w a xs) :
    Calls Tryz.prog 12 #[.agg #[.slice a xs.length c, .int .i64 V]] w fun e w' => e = .returned (.tuple #[.bool B, .bool G]) ∧ Below w.heap.size w w' := by
  have b1 := below1 w (.cells #[.slice a xs.length c, .int .i64 V] 30)
  have k0 : (w.alloc (.cells #[.slice a xs.length c, .int .i64 V] 30)).cell? ⟨w.heap.size, 0, none⟩ = some (.slice a xs.length c) := by simp [go_sem]
  have k1 : (w.alloc (.cells #[.slice a xs.length c, .int .i64 V] 30)).cell? ⟨w.heap.size, 1, none⟩ = some (.int .i64 V) := by simp [go_sem]
  obtain ⟨W0, hW0⟩ : ∃ W, W = w.alloc (.cells #[.slice a xs.length c, .int .i64 V] 30) := ⟨_, rfl⟩
  rw [← hW0] at b1 k0 k1
  have HW0 := hid hW0.symm
  have HB0 := hid b1
  have HX := hid (fun (W : World) (h : Below W0.heap.size W0 W) => hX.below (bstep' b1 h))
  have H15 : Hid (Calls Tryz.prog 15 #[.agg #[.slice a xs.length c, .int .i64 V]] W0 fun e w' => e = .returned (.bool G) ∧ Below W0.heap.size W0 w') := (iGoodSsa_any V xs a c W0 hl hs (hT.below b1) (hX.below b1)).mono fun e w' ⟨b, he, hb, hw⟩ => ⟨by rw [he, show b = G by rw [Bool.eq_iff_iff, hb, hD.good]], hw⟩
  have HD := hid hD
  clear hX hs hT hW0 hD
  cases G with
  | false =>
    have HZ := hid (HD.out.no rfl)
    go_enter Tryz.func12, Tryz.ntmps12
    go_upto_region 1 with fail
    try rw [HW0.out]
    clear HW0
    go_wp2_with (go_at_call 15; refine H15.out.mono ?_; rintro e w1 ⟨rfl, hb1⟩)
    have HB1 := hid (bstep' HB0.out hb1)
    clear hb1
    go_ret2
    exact ⟨by rw [HZ.out] <;> rfl, HB1.out⟩
  | true =>
    have hG := HD.out.good.1 rfl
    have hmo := hG.most
    have hpo := hG.pos
    have HE : Hid (∀ p ∈ xs, EdgeIn xs p) := fun p hp => edge_of (V := V.toNat) (by have := hG.parts p hp; rwa [show V = ((V.toNat : Nat) : Int) by have := hG.low; omega] at this)
    have HY := hid (HD.out.yes rfl)
    have H35 := hid (fun (W : World) (h : Below W0.heap.size W0 W) => piecesOf_any V xs a c W (by omega) (HX.out W h))
    have H34 := hid (fun (W : World) pa pc (h : CRow W pa xs) => edgesToSplit_any xs pa pc W hpo hmo HE.out h)
    clear hG
    go_enter Tryz.func12, Tryz.ntmps12
    go_upto_region 1 with fail
    try rw [HW0.out]
    clear HW0
    go_upto_region 3 with (go_at_call 15; refine H15.out.mono ?_; rintro e w1 ⟨rfl, hb1⟩)
    have q0 := cell_below k0 hb1
    have q1 := cell_below k1 hb1
    have HB1 := hid hb1
    clear hb1 k0 k1
    go_wp2_with (first | (go_at_call 35; refine (H35.out _ HB1.out).mono ?_; rintro e w2 ⟨pa, pc, rfl, hc2, hb2⟩) | (go_at_call 34; refine (H34.out _ _ _ hc2).mono ?_; rintro e w3 ⟨va, vc, n, rfl, hn, hn6, hb3⟩))
    have HB3 := hid (bstep' (bstep' HB1.out hb2) hb3)
    have HN : Hid (B = decide (n = 0)) := by
      show _ = _
      rw [Bool.eq_iff_iff, HY.out, decide_eq_true_eq, hn]
    clear hb2 hb3 hc2 hn
    go_ret2
    exact ⟨by rw [HN.out]; by_cases h0 : n = 0 <;> simp [h0], bstep' HB0.out HB3.out⟩
end Go.Proofs.YteihecnmnajahaaGreatDoor
