/- Critical edges: as plain lists, and the model. -/
import Derived.Test.YteihecnmnajahaaGreatDoorCountI
import Derived.Deep.QuietTactic
import Derived.BigQuiet
import Derived.Deep.RegionHeld
namespace Go.Proofs.YteihecnmnajahaaGreatDoor
open Go Go.RowKit
set_option linter.unusedVariables false
set_option linter.unusedSimpArgs false
set_option maxRecDepth 100000

/-- where edges lead -/
def nexts (xs : List Prt) : List Int := xs.flatMap (·.next)
theorem nexts_snoc {xs : List Prt} {k : Nat} {p : Prt} (h : xs[k]? = some p) : nexts (xs.take (k + 1)) = nexts (xs.take k) ++ p.next := by rw [List.take_add_one, h]; simp [nexts]
/-- an edge is critical, and has args -/
def critE (xs : List Prt) (p : Prt) (i : Nat) : Bool := decide (1 < p.next.length) && (decide (0 < (p.args[i]?.getD []).length) && decide (1 < (nexts xs).count (p.next[i]?.getD 0)))
def noCrit (xs : List Prt) : Prop := ∀ p ∈ xs, ∀ i, i < p.next.length → critE xs p i = false
theorem nexts_len {V : Nat} {xs : List Prt} (h : ∀ p ∈ xs, p.next.length ≤ 6) : (nexts xs).length ≤ 6 * xs.length := by
  induction xs with
  | nil => simp [nexts]
  | cons p r ih =>
    have h1 := ih (fun q hq => h q (List.mem_cons_of_mem _ hq))
    have h2 := h p (List.mem_cons_self ..)
    simp only [nexts, List.flatMap_cons, List.length_append, List.length_cons] at h1 ⊢
    omega
/-- what is asked of the parts here -/
structure EdgeIn (xs : List Prt) (p : Prt) : Prop where
  few : p.next.length ≤ 6
  lead : ∀ v ∈ p.next, 0 ≤ v ∧ v < (xs.length : Int)
  args : p.next.length ≤ p.args.length
theorem PrtOk.edge {V : Nat} {xs : List Prt} {p : Prt} (h : PrtOk V xs p) (hw : waysBm V p.go p.test p.next.length = true) : EdgeIn xs p := by
  refine ⟨h.next.1, h.next.2, ?_⟩
  have hf : p.args.map List.length = handsOn xs p := by simpa [fitArgs] using h.args
  have hl := congrArg List.length hf
  rw [List.length_map] at hl
  unfold handsOn at hl
  split at hl
  · rename_i h3
    simp [waysBm, h3] at hw
    simp [hw.1]
  · rw [List.length_map] at hl
    omega
set_option maxHeartbeats 4000000 in
theorem l13Edges_any (V k0 : Int) (xs : List Prt) (a : Option Addr) (c : Nat) (w : World) (hxl : xs.length ≤ 11) (hN : ∀ p ∈ xs, p.next.length ≤ 6) (hX : PRow w a xs) :
    Calls Tryz.prog 61 #[.agg #[.slice a xs.length c, .int .i64 V], .int .i64 k0] w fun e w' => e = .returned (.int .i64 (((nexts xs).count k0 : Nat) : Int)) ∧ Below w.heap.size w w' := by
  have b1 := below1 w (.cells #[.slice a xs.length c, .int .i64 V] 30)
  have HX := hid (fun (W : World) (h : Below w.heap.size w W) => hX.below h)
  have HXX := hid hX
  have HN := hid hN
  have HB1 := hid b1
  clear hX hN b1
  go_enter Tryz.func61, Tryz.ntmps61
  go_wp2
  go_loopw [5, 13] (fun t5 t13 wr => ∃ (k : Nat), t13 = .int .i64 k ∧ k ≤ xs.length ∧ t5 = .int .i64 (((nexts (xs.take k)).count k0 : Nat) : Int) ∧ Hid (Below w.heap.size w wr)) (fun _ t13 _ => xs.length - (intOf t13).toNat)
  case atStart => exact ⟨0, rfl, by omega, rfl, HB1⟩
  case round =>
    obtain ⟨k, rfl, hk, rfl, HB⟩ := hrel
    by_cases hkx : k < xs.length
    · obtain ⟨b, off, rfl, hbw, hat⟩ := HXX.out.at (by intro e; subst e; simp at hkx)
      obtain ⟨ps, cs, go, test, ns, rs, pa, pc, ca, cc, na, nc, ra, rc, c0, c1, c2, c3, c4, c5, l1, l2, l3, l4, HI, HXK⟩ := hat wr HB.out k hkx
      have hnl := HN.out _ (List.mem_of_getElem? HXK.out)
      simp only [] at hnl
      have HSN := hid (nexts_snoc HXK.out)
      have hcl : (nexts (xs.take k)).count k0 ≤ 100 := Nat.le_trans List.count_le_length (Nat.le_trans (nexts_len (V := 0) (fun p hp => HN.out p (List.mem_of_mem_take hp))) (by rw [List.length_take]; omega))
      obtain ⟨q, hq⟩ : ∃ q, (nexts (xs.take k)).count k0 = q := ⟨_, rfl⟩
      have HQ := hid hq
      rw [hq] at hcl ⊢
      have HNR := hid HI.out.next
      have HB2 := hid (bstep' HB.out (below1 wr (.cells #[.slice pa ps.length pc, .slice ca cs.length cc, .int .i64 go, .int .i64 test, .slice na ns.length nc, .slice ra rs.length rc] 51)))
      have HWR := hid (Below.refl wr.heap.size wr)
      obtain ⟨W1, hW1⟩ : ∃ W, W = wr := ⟨_, rfl⟩
      have HBW : Hid (Below W1.heap.size W1 (wr.alloc (.cells #[.slice pa ps.length pc, .slice ca cs.length cc, .int .i64 go, .int .i64 test, .slice na ns.length nc, .slice ra rs.length rc] 51))) := by rw [hW1]; exact below1 wr _
      rw [← hW1] at HNR
      clear hat HI hq hW1
      go_wp2
      go_loopw [5, 20] (fun t5 t20 wr => ∃ (i : Nat), t20 = .int .i64 i ∧ i ≤ ns.length ∧ t5 = .int .i64 ((q + (ns.take i).count k0 : Nat) : Int) ∧ Hid (Below w.heap.size w wr) ∧ Hid (Below W1.heap.size W1 wr)) (fun _ t20 _ => ns.length - (intOf t20).toNat)
      case atStart => exact ⟨0, rfl, by omega, by simp, HB2, HBW⟩
      case round =>
        obtain ⟨i, rfl, hi, rfl, HBI, HBJ⟩ := hrel
        by_cases hit : i < ns.length
        · obtain ⟨tb, toff, rfl, htb, htat⟩ := HNR.out.at (by intro e; subst e; simp at hit)
          obtain ⟨v, cv, HV⟩ := htat wr HBJ.out i hit
          have HTS := hid (take_snoc HV.out)
          have hc2 : (ns.take i).count k0 ≤ 6 := Nat.le_trans List.count_le_length (by rw [List.length_take]; omega)
          obtain ⟨r, hr⟩ : ∃ r, (ns.take i).count k0 = r := ⟨_, rfl⟩
          have HR := hid hr
          rw [hr] at hc2 ⊢
          clear htat hr
          by_cases hv : v = k0
          · have HC : Hid ((ns.take (i + 1)).count k0 = r + 1) := by
              show _ = _
              rw [HTS.out, List.count_append, HR.out, hv] <;> simp
            subst hv
            go_wp2
            go_roundw
            case rel => exact ⟨i + 1, by go_num, by omega, by rw [HC.out] <;> congr 1 <;> omega, HBI, HBJ⟩
            case measure => simp [intOf]; omega
          · have HC : Hid ((ns.take (i + 1)).count k0 = r) := by
              show _ = _
              rw [HTS.out, List.count_append, HR.out, List.count_eq_zero.2 (by simp; exact fun h => hv h.symm)]; rfl
            go_wp2
            go_roundw
            case rel => exact ⟨i + 1, by go_num, by omega, by rw [HC.out], HBI, HBJ⟩
            case measure => simp [intOf]; omega
        · obtain rfl : i = ns.length := by omega
          rw [List.take_of_length_le (Nat.le_refl _)]
          have HC : Hid ((nexts (xs.take (k + 1))).count k0 = q + ns.count k0) := by
            show _ = _
            rw [HSN.out, List.count_append, HQ.out]
          go_wp2
          go_roundw
          case rel => exact ⟨k + 1, by go_num, by omega, by rw [HC.out], HBI⟩
          case measure => simp [intOf]; omega
    · obtain rfl : k = xs.length := by omega
      rw [List.take_of_length_le (Nat.le_refl _)]
      go_wp2
      go_ret
      exact ⟨rfl, HB.out⟩
set_option maxHeartbeats 4000000 in
theorem l13Critical_any (V : Int) (xs : List Prt) (a : Option Addr) (c : Nat) (go test : Int) (ps : List Int) (cs : List Flt) (ns : List Int) (rs : List (List Int)) (pa ca na ra : Option Addr) (pc cc nc rc i : Nat) (w : World) (hxl : xs.length ≤ 11) (hN : ∀ p ∈ xs, p.next.length ≤ 6) (hX : PRow w a xs) (hi : i < ns.length) (hna : ns.length ≤ rs.length) (hn6 : ns.length ≤ 6) (l4 : rs.length ≤ 9223372036854775807) (hn : Row w na ns) (hr : LRow w ra rs) :
    Calls Tryz.prog 32 #[.agg #[.slice a xs.length c, .int .i64 V], .agg #[.slice pa ps.length pc, .slice ca cs.length cc, .int .i64 go, .int .i64 test, .slice na ns.length nc, .slice ra rs.length rc], .int .i64 i] w fun e w' => e = .returned (.bool (critE xs ⟨ps, cs, go, test, ns, rs⟩ i)) ∧ Below w.heap.size w w' := by
  have bA := below2 w (.cells #[.slice a xs.length c, .int .i64 V] 30) (.cells #[.slice pa ps.length pc, .slice ca cs.length cc, .int .i64 go, .int .i64 test, .slice na ns.length nc, .slice ra rs.length rc] 51)
  obtain ⟨A, hA⟩ : ∃ W, W = (w.alloc (.cells #[.slice a xs.length c, .int .i64 V] 30)).alloc (.cells #[.slice pa ps.length pc, .slice ca cs.length cc, .int .i64 go, .int .i64 test, .slice na ns.length nc, .slice ra rs.length rc] 51) := ⟨_, rfl⟩
  obtain ⟨nb, noff, rfl, hnb, nat⟩ := hn.at (by intro e; subst e; simp at hi)
  obtain ⟨rb, roff, rfl, hrb, rat⟩ := hr.at (by intro e; rw [e] at hna; simp only [List.length_nil] at hna; omega)
  obtain ⟨v, nv, HV⟩ := nat A (by rw [hA]; exact bA) i hi
  obtain ⟨t, ta, tc, rv, tl, HRT, HT⟩ := rat A (by rw [hA]; exact bA) i (by omega)
  have k0 : A.cell? ⟨w.heap.size, 0, none⟩ = some (.slice a xs.length c) := by rw [hA]; simp [go_sem]
  have k1 : A.cell? ⟨w.heap.size, 1, none⟩ = some (.int .i64 V) := by rw [hA]; simp [go_sem]
  have k4 : A.cell? ⟨w.heap.size + 1, 4, none⟩ = some (.slice (some ⟨nb, noff, none⟩) ns.length nc) := by rw [hA]; simp [go_sem]
  have k5 : A.cell? ⟨w.heap.size + 1, 5, none⟩ = some (.slice (some ⟨rb, roff, none⟩) rs.length rc) := by rw [hA]; simp [go_sem]
  have HB : Hid (Below w.heap.size w A) := by rw [hA]; exact bA
  have HX := hid (hX.below HB.out)
  have HN := hid hN
  have HC : Hid (critE xs ⟨ps, cs, go, test, ns, rs⟩ i = (decide (1 < ns.length) && (decide (0 < t.length) && decide (1 < (nexts xs).count v)))) := by
    show _ = _
    simp only [critE]
    rw [HT.out, HV.out]
    rfl
  have HA := hid hA.symm
  clear nat rat HRT hn hr hX hN hA bA
  by_cases h1 : 1 < ns.length
  · have h1' : (1 : Int) < ns.length := by omega
    by_cases h2 : t = []
    · subst h2
      have HR : Hid (critE xs ⟨ps, cs, go, test, ns, rs⟩ i = false) := by show _ = _; rw [HC.out]; simp
      go_enter Tryz.func32, Tryz.ntmps32
      go_upto_region 1 with fail
      try rw [HA.out]
      clear HA
      go_quiet (fail)
      go_wp2
      go_ret
      exact ⟨by rw [HR.out] <;> rfl, below_drewN HB.out _⟩
    · have h2' : 0 < t.length := List.length_pos_iff.2 h2
      have h2'' : (0 : Int) < t.length := by omega
      have hcl : (nexts xs).count v ≤ 100 := Nat.le_trans List.count_le_length (Nat.le_trans (nexts_len (V := 0) HN.out) (by omega))
      obtain ⟨q, hq⟩ : ∃ q, (nexts xs).count v = q := ⟨_, rfl⟩
      rw [hq] at hcl
      have H61 : Hid (∀ W, Below A.heap.size A W → Calls Tryz.prog 61 #[.agg #[.slice a xs.length c, .int .i64 V], .int .i64 v] W fun e w' => e = .returned (.int .i64 (q : Int)) ∧ Below W.heap.size W w') := fun W h => by
        have := l13Edges_any V v xs a c W hxl HN.out (HX.out.below h)
        rw [hq] at this
        exact this
      have HK := hid (fun (W : World) (h : Below A.heap.size A W) => And.intro (And.intro (cell_below k0 h) (cell_below k1 h)) (And.intro (And.intro (cell_below k4 h) (cell_below k5 h)) (And.intro (cell_below nv h) (cell_below rv h))))
      have HR : Hid (critE xs ⟨ps, cs, go, test, ns, rs⟩ i = decide (1 < q)) := by show _ = _; rw [HC.out, decide_eq_true h1, decide_eq_true h2', hq]; rfl
      clear hq
      go_enter Tryz.func32, Tryz.ntmps32
      go_upto_region 1 with fail
      try rw [HA.out]
      clear HA
      go_region_held (fun W => (W.cell? ⟨w.heap.size, 0, none⟩ = some (.slice a xs.length c) ∧ W.cell? ⟨w.heap.size, 1, none⟩ = some (.int .i64 V)) ∧ ((W.cell? ⟨w.heap.size + 1, 4, none⟩ = some (.slice (some ⟨nb, noff, none⟩) ns.length nc) ∧ W.cell? ⟨w.heap.size + 1, 5, none⟩ = some (.slice (some ⟨rb, roff, none⟩) rs.length rc)) ∧ (W.cell? ⟨nb, noff + i, none⟩ = some (.int .i64 v) ∧ W.cell? ⟨rb, roff + i, none⟩ = some (.slice ta t.length tc)))) ((first | exact HK.out _ hb2 | go_keep)) ((go_at_call 61; refine (H61.out _ (Below.refl _ _).drew).mono ?_; rintro e w2 ⟨rfl, hb2'⟩; have hb2 := below_of_drew hb2'))
      have HB2 := hid (bstep' HB.out hb2)
      clear hb2 hb2' HK H61
      go_wp2
      go_ret
      exact ⟨by rw [HR.out] <;> simp <;> omega, HB2.out⟩
  · have h1' : ¬ (1 : Int) < ns.length := by omega
    have HR : Hid (critE xs ⟨ps, cs, go, test, ns, rs⟩ i = false) := by show _ = _; rw [HC.out, decide_eq_false h1]; rfl
    go_enter Tryz.func32, Tryz.ntmps32
    go_upto_region 1 with fail
    try rw [HA.out]
    clear HA
    go_quiet (fail)
    go_wp2
    go_ret
    exact ⟨by rw [HR.out] <;> rfl, below_drewN HB.out _⟩
theorem edge_of {V : Nat} {xs : List Prt} {p : Prt} (h : goodPrt V xs p = true) : EdgeIn xs p := by
  refine (prtOk_of h).edge ?_
  simp only [goodPrt, goodBm, Bool.and_eq_true] at h
  exact h.1.2.2.2
/-- what IsSplit tells -/
structure SplitIs (V : Int) (xs : List Prt) (G B : Bool) : Prop where
  good : G = true ↔ GoodS V xs
  no : G = false → B = false
  yes : G = true → (B = true ↔ noCrit xs)
theorem exists_split (V : Int) (xs : List Prt) : ∃ G B, SplitIs V xs G B := by
  by_cases h : GoodS V xs
  · by_cases h2 : noCrit xs
    · exact ⟨true, true, ⟨fun _ => h, fun _ => rfl⟩, (by intro h; cases h), fun _ => ⟨fun _ => h2, fun _ => rfl⟩⟩
    · exact ⟨true, false, ⟨fun _ => h, fun _ => rfl⟩, (by intro h; cases h), fun _ => ⟨(by intro h; cases h), fun h => absurd h h2⟩⟩
  · exact ⟨false, false, ⟨(by intro h; cases h), fun g => absurd g h⟩, fun _ => rfl, (by intro h; cases h)⟩
set_option maxHeartbeats 4000000 in
theorem sIsSplit_any (V : Int) (xs : List Prt) (a : Option Addr) (c : Nat) (w : World) (G B : Bool) (hD : SplitIs V xs G B) (hl : xs.length ≤ 9223372036854775807) (hs : sumP xs ≤ 1048576) (hX : PRow w a xs) :
    Calls Tryz.prog 10 #[.agg #[.slice a xs.length c, .int .i64 V]] w fun e w' => e = .returned (.tuple #[.bool B, .bool G]) ∧ Below w.heap.size w w' := by
  have b1 := below1 w (.cells #[.slice a xs.length c, .int .i64 V] 30)
  have k0 : (w.alloc (.cells #[.slice a xs.length c, .int .i64 V] 30)).cell? ⟨w.heap.size, 0, none⟩ = some (.slice a xs.length c) := by simp [go_sem]
  have k1 : (w.alloc (.cells #[.slice a xs.length c, .int .i64 V] 30)).cell? ⟨w.heap.size, 1, none⟩ = some (.int .i64 V) := by simp [go_sem]
  obtain ⟨W0, hW0⟩ : ∃ W, W = w.alloc (.cells #[.slice a xs.length c, .int .i64 V] 30) := ⟨_, rfl⟩
  rw [← hW0] at b1 k0 k1
  have HW0 := hid hW0.symm
  have HB0 := hid b1
  have HX := hid (hX.below b1)
  have HK := hid (fun (W : World) (h : Below W0.heap.size W0 W) => And.intro (cell_below k0 h) (cell_below k1 h))
  have H14 : Hid (Calls Tryz.prog 14 #[.agg #[.slice a xs.length c, .int .i64 V]] W0 fun e w' => e = .returned (.bool G) ∧ Below W0.heap.size W0 w') := (sGoodSsa_any V xs a c W0 hl hs (hX.below b1)).mono fun e w' ⟨b, he, hb, hw⟩ => ⟨by rw [he, show b = G by rw [Bool.eq_iff_iff, hb, hD.good]], hw⟩
  have HD := hid hD
  clear hX hs hW0 hD
  cases G with
  | false =>
    have HZ := hid (HD.out.no rfl)
    go_enter Tryz.func10, Tryz.ntmps10
    go_upto_region 1 with fail
    try rw [HW0.out]
    clear HW0
    go_wp2_with (go_at_call 14; refine H14.out.mono ?_; rintro e w1 ⟨rfl, hb1⟩)
    have HB1 := hid (bstep' HB0.out hb1)
    clear hb1
    go_ret2
    exact ⟨by rw [HZ.out] <;> rfl, HB1.out⟩
  | true =>
    have hG := HD.out.good.1 rfl
    have hmo := hG.most
    have HE : Hid (∀ p ∈ xs, EdgeIn xs p) := fun p hp => edge_of (V := V.toNat) (by have := hG.parts p hp; rwa [show V = ((V.toNat : Nat) : Int) by have := hG.low; omega] at this)
    have HY := hid (HD.out.yes rfl)
    clear hG
    go_enter Tryz.func10, Tryz.ntmps10
    go_upto_region 1 with fail
    try rw [HW0.out]
    clear HW0
    go_upto_region 3 with (go_at_call 14; refine H14.out.mono ?_; rintro e w1 ⟨rfl, hb1⟩)
    obtain ⟨q0, q1⟩ := HK.out w1 hb1
    have HB1 := hid hb1
    clear hb1 k0 k1
    go_wp2
    go_loopw [13] (fun t13 wr => ∃ (k : Nat), t13 = .int .i64 k ∧ k ≤ xs.length ∧ Hid (∀ j p, j < k → xs[j]? = some p → ∀ i, i < p.next.length → critE xs p i = false) ∧ Hid (Below W0.heap.size W0 wr)) (fun t13 _ => xs.length - (intOf t13).toNat)
    case atStart => exact ⟨0, rfl, by omega, (by intro j p hj; omega), HB1⟩
    case round =>
      obtain ⟨k, rfl, hk, HF, HBk⟩ := hrel
      clear q0 q1
      by_cases hkx : k < xs.length
      · obtain ⟨b, off, rfl, hbw, hat⟩ := HX.out.at (by intro e; subst e; simp at hkx)
        obtain ⟨ps, cs, go, test, ns, rs, pa, pc, ca, cc, na, nc, ra, rc, c0, c1, c2, c3, c4, c5, l1, l2, l3, l4, HI, HXK⟩ := hat wr HBk.out k hkx
        have HEI := hid (HE.out _ (List.mem_of_getElem? HXK.out))
        have bF := below1 wr (.cells #[.slice pa ps.length pc, .slice ca cs.length cc, .int .i64 go, .int .i64 test, .slice na ns.length nc, .slice ra rs.length rc] 51)
        obtain ⟨W2, hW2⟩ : ∃ W, W = wr.alloc (.cells #[.slice pa ps.length pc, .slice ca cs.length cc, .int .i64 go, .int .i64 test, .slice na ns.length nc, .slice ra rs.length rc] 51) := ⟨_, rfl⟩
        obtain ⟨bx, hbx⟩ : ∃ bx, wr.heap.size = bx := ⟨_, rfl⟩
        have e0 : W2.cell? ⟨bx, 0, none⟩ = some (.slice pa ps.length pc) := by rw [hW2, ← hbx]; simp [go_sem]
        have e1 : W2.cell? ⟨bx, 1, none⟩ = some (.slice ca cs.length cc) := by rw [hW2, ← hbx]; simp [go_sem]
        have e2 : W2.cell? ⟨bx, 2, none⟩ = some (.int .i64 go) := by rw [hW2, ← hbx]; simp [go_sem]
        have e3 : W2.cell? ⟨bx, 3, none⟩ = some (.int .i64 test) := by rw [hW2, ← hbx]; simp [go_sem]
        have e4 : W2.cell? ⟨bx, 4, none⟩ = some (.slice na ns.length nc) := by rw [hW2, ← hbx]; simp [go_sem]
        have e5 : W2.cell? ⟨bx, 5, none⟩ = some (.slice ra rs.length rc) := by rw [hW2, ← hbx]; simp [go_sem]
        have HBOX := hid (fun (W : World) (h : Below W2.heap.size W2 W) => And.intro (And.intro (cell_below e0 h) (And.intro (cell_below e1 h) (cell_below e2 h))) (And.intro (cell_below e3 h) (And.intro (cell_below e4 h) (cell_below e5 h))))
        rw [← hW2] at bF
        have HB2 := hid (bstep' HBk.out bF)
        have HII := hid (And.intro (HI.out.next.below bF) (HI.out.args.below bF))
        go_upto_region 6 with fail
        rw [← hW2]
        try rw [hbx]
        clear hat hW2 hbx HI bF c0 c1 c2 c3 c4 c5 e0 e1 e2 e3 e5
        go_wp2
        clear e4
        go_loopw [20] (fun t20 wr => ∃ (i : Nat), t20 = .int .i64 i ∧ i ≤ ns.length ∧ Hid (∀ j, j < i → critE xs ⟨ps, cs, go, test, ns, rs⟩ j = false) ∧ Hid (Below W2.heap.size W2 wr)) (fun t20 _ => ns.length - (intOf t20).toNat)
        case atStart => exact ⟨0, rfl, by omega, (by intro j hj; omega), Below.refl _ _⟩
        case round =>
          obtain ⟨i, rfl, hi, HFI, HBI⟩ := hrel
          have HBB := hid (bstep' HB2.out HBI.out)
          obtain ⟨⟨d0, d1, d2⟩, d3, d4, d5⟩ := HBOX.out wr HBI.out
          obtain ⟨q0, q1⟩ := HK.out wr HBB.out
          by_cases hit : i < ns.length
          · have H32 := hid (l13Critical_any V xs _ c go test ps cs ns rs pa ca na ra pc cc nc rc i wr hmo (fun p hp => (HE.out p hp).few) (HX.out.below HBB.out) hit HEI.out.args HEI.out.few l4 (HII.out.1.below HBI.out) (HII.out.2.below HBI.out))
            obtain ⟨z, hz⟩ : ∃ z, critE xs ⟨ps, cs, go, test, ns, rs⟩ i = z := ⟨_, rfl⟩
            have HZ := hid hz
            rw [hz] at H32
            clear hz
            cases z with
            | true =>
              have HBF : Hid (B = false) := by
                show _ = _
                rw [Bool.eq_false_iff]
                intro hb
                have := HY.out.1 hb _ (List.mem_of_getElem? HXK.out) i hit
                rw [HZ.out] at this
                cases this
              go_wp2_with (go_at_call 32; refine H32.out.mono ?_; rintro e w5 ⟨rfl, hb5⟩)
              have HB5 := hid (bstep' (bstep' HB0.out HBB.out) hb5)
              clear hb5
              go_ret2
              exact ⟨by rw [HBF.out] <;> rfl, HB5.out⟩
            | false =>
              have HF2 : Hid (∀ j, j < i + 1 → critE xs ⟨ps, cs, go, test, ns, rs⟩ j = false) := fun j hj => by
                by_cases e : j = i
                · subst e; exact HZ.out
                · exact HFI.out j (by omega)
              go_wp2_with (go_at_call 32; refine H32.out.mono ?_; rintro e w5 ⟨rfl, hb5⟩)
              have HB5 := hid (bstep' HBI.out hb5)
              clear hb5
              go_roundw
              case rel => exact ⟨i + 1, by go_num, by omega, HF2, HB5⟩
              case measure => simp [intOf]; omega
          · obtain rfl : i = ns.length := by omega
            have HF2 : Hid (∀ j p, j < k + 1 → xs[j]? = some p → ∀ i, i < p.next.length → critE xs p i = false) := by
              intro j p hj hp
              by_cases e : j = k
              · subst e; rw [HXK.out] at hp; cases hp; exact HFI.out
              · exact HF.out j p (by omega) hp
            go_wp2
            go_roundw
            case rel => exact ⟨k + 1, by go_num, by omega, HF2, HBB⟩
            case measure => simp [intOf]; omega
      · obtain rfl : k = xs.length := by omega
        have HBT : Hid (B = true) := HY.out.2 fun p hp => by
          obtain ⟨j, hj⟩ := List.mem_iff_getElem?.1 hp
          exact HF.out j p (List.getElem?_eq_some_iff.1 hj).1 hj
        go_wp2
        go_ret2
        exact ⟨by rw [HBT.out] <;> rfl, bstep' HB0.out HBk.out⟩
end Go.Proofs.YteihecnmnajahaaGreatDoor
