/- Needless params: as plain lists, and the model. -/
import Derived.Test.YteihecnmnajahaaGreatDoorSplit13
namespace Go.Proofs.YteihecnmnajahaaGreatDoor
open Go Go.RowKit
set_option linter.unusedVariables false
set_option linter.unusedSimpArgs false
set_option maxRecDepth 100000

/-- what a part hands on to place i of part k, by its first n ways -/
def argsP (p : Prt) (k i n : Nat) : List Int := (List.range n).flatMap fun w => if p.next[w]? = some (k : Int) then [((p.args[w]?).getD [])[i]?.getD 0] else []
def argsAt (xs : List Prt) (k i : Nat) : List Int := xs.flatMap fun p => argsP p k i p.next.length
theorem argsP_snoc (p : Prt) (k i n : Nat) : argsP p k i (n + 1) = argsP p k i n ++ (if p.next[n]? = some (k : Int) then [((p.args[n]?).getD [])[i]?.getD 0] else []) := by
  simp [argsP, List.range_succ]
theorem argsAt_snoc {xs : List Prt} {q : Nat} {p : Prt} (h : xs[q]? = some p) (k i : Nat) : argsAt (xs.take (q + 1)) k i = argsAt (xs.take q) k i ++ argsP p k i p.next.length := by rw [List.take_add_one, h]; simp [argsAt]
/-- the model's scan: the last value that was another one, and how often there was one -/
def scanM (v : Int) (s : Int × Nat) (a : Int) : Int × Nat := if a ≠ v ∧ a ≠ s.1 then (a, s.2 + 1) else s
/-- the program's scan: the one other value; -1, where there is none or more than one -/
def scanP (v : Int) : Int → List Int → Int
  | o, [] => o
  | o, a :: r => if a = v ∨ a = o then scanP v o r else if o ≠ -1 then -1 else scanP v a r
theorem scanM_mono (v : Int) (s : Int × Nat) (L : List Int) : s.2 ≤ (L.foldl (scanM v) s).2 := by
  induction L generalizing s with
  | nil => exact Nat.le_refl _
  | cons a r ih =>
    have h1 := ih (scanM v s a)
    have h2 : s.2 ≤ (scanM v s a).2 := by unfold scanM; split <;> simp
    exact Nat.le_trans h2 h1
theorem scanM_len (v : Int) (s : Int × Nat) (L : List Int) : (L.foldl (scanM v) s).2 ≤ s.2 + L.length := by
  induction L generalizing s with
  | nil => exact Nat.le_refl _
  | cons a r ih =>
    have h1 := ih (scanM v s a)
    have h2 : (scanM v s a).2 ≤ s.2 + 1 := by unfold scanM; split <;> simp
    simp only [List.foldl_cons, List.length_cons]
    omega
theorem scan_one {v o : Int} {L : List Int} (ho : o ≠ -1) (hL : ∀ a ∈ L, a ≠ -1) : scanP v o L ≠ -1 ↔ (L.foldl (scanM v) (o, 1)).2 = 1 := by
  induction L with
  | nil => simp [scanP, ho]
  | cons a r ih =>
    simp only [scanP, List.foldl_cons]
    by_cases h : a = v ∨ a = o
    · have hs : scanM v (o, 1) a = (o, 1) := by unfold scanM; rw [if_neg]; rintro ⟨h1, h2⟩; rcases h with h | h; exact h1 h; exact h2 h
      rw [if_pos h, hs]
      exact ih (fun b hb => hL b (List.mem_cons_of_mem _ hb))
    · have hs : scanM v (o, 1) a = (a, 2) := by unfold scanM; rw [if_pos ⟨fun e => h (.inl e), fun e => h (.inr e)⟩]
      have hm := scanM_mono v (a, 2) r
      rw [if_neg h, if_pos ho, hs]
      simp only [ne_eq, not_true_eq_false, false_iff]
      simp only [] at hm
      omega
theorem scan_is {v : Int} {L : List Int} (hL : ∀ a ∈ L, a ≠ -1) : scanP v (-1) L ≠ -1 ↔ (L.foldl (scanM v) (-1, 0)).2 = 1 := by
  induction L with
  | nil => simp [scanP]
  | cons a r ih =>
    have ha := hL a (List.mem_cons_self ..)
    simp only [scanP, List.foldl_cons]
    by_cases h : a = v
    · have hs : scanM v (-1, 0) a = (-1, 0) := by unfold scanM; rw [if_neg]; rintro ⟨h1, _⟩; exact h1 h
      rw [if_pos (.inl h), hs]
      exact ih (fun b hb => hL b (List.mem_cons_of_mem _ hb))
    · have hs : scanM v (-1, 0) a = (a, 1) := by unfold scanM; rw [if_pos ⟨h, ha⟩]
      rw [if_neg (by rintro (h1 | h1); exact h h1; exact ha h1), if_neg (by simp), hs]
      exact scan_one ha (fun b hb => hL b (List.mem_cons_of_mem _ hb))
/-- a param is needless -/
def needless (xs : List Prt) (k i : Nat) (v : Int) : Prop := ((argsAt xs k i).foldl (scanM v) (-1, 0)).2 = 1
def noNeedless (xs : List Prt) : Prop := ∀ k p, xs[k]? = some p → ∀ i v, p.params[i]? = some v → ¬ needless xs k i v
/-- what is asked of the parts here -/
structure ArgIn (xs : List Prt) (p : Prt) : Prop where
  few : p.next.length ≤ 6
  fit : ∀ (w : Nat) (x : Int), p.next[w]? = some x → ∃ l : List Int, p.args[w]? = some l ∧ ∀ (k : Nat) (q : Prt), x = ((k : Nat) : Int) → xs[k]? = some q → l.length = q.params.length
theorem arg_of {V : Nat} {xs : List Prt} {p : Prt} (h : goodPrt V xs p = true) : ArgIn xs p := by
  have hpo := prtOk_of h
  refine ⟨hpo.next.1, fun w x hx => ?_⟩
  have hf : p.args.map List.length = handsOn xs p := by simpa [fitArgs] using hpo.args
  have he := edge_of h
  have hw := (List.getElem?_eq_some_iff.1 hx).1
  obtain ⟨l, hl⟩ : ∃ l, p.args[w]? = some l := ⟨_, List.getElem?_eq_getElem (Nat.lt_of_lt_of_le hw he.args)⟩
  refine ⟨l, hl, fun k q hk hq => ?_⟩
  have h1 : (p.args.map List.length)[w]? = some l.length := by rw [List.getElem?_map, hl]; rfl
  rw [hf] at h1
  unfold handsOn at h1
  split at h1
  · rename_i h3
    simp only [goodPrt, goodBm, Bool.and_eq_true] at h
    have hw2 := h.1.2.2.2
    simp [waysBm, h3] at hw2
    rw [hw2.1] at hx
    simp at hx
  · rw [List.getElem?_map, hx] at h1
    simp only [Option.map_some, Option.some.injEq, hk, Int.toNat_natCast, hq, Option.getD_some] at h1
    exact h1.symm
theorem argsP_len (p : Prt) (k i n : Nat) : (argsP p k i n).length ≤ n := by
  induction n with
  | zero => simp [argsP]
  | succ n ih => rw [argsP_snoc, List.length_append]; split <;> simp <;> omega
theorem argsAt_len {xs : List Prt} (h : ∀ p ∈ xs, p.next.length ≤ 6) (k i : Nat) : (argsAt xs k i).length ≤ 6 * xs.length := by
  induction xs with
  | nil => simp [argsAt]
  | cons p r ih =>
    have h1 := ih (fun q hq => h q (List.mem_cons_of_mem _ hq))
    have h2 := h p (List.mem_cons_self ..)
    have h3 := argsP_len p k i p.next.length
    simp only [argsAt, List.flatMap_cons, List.length_append, List.length_cons] at h1 ⊢
    omega
set_option maxHeartbeats 8000000 in
theorem l9Needless_any (V : Int) (xs : List Prt) (a : Option Addr) (c : Nat) (w : World) (hxl : xs.length ≤ 11) (hE : ∀ p ∈ xs, ArgIn xs p) (hX : PRow w a xs) :
    Calls Tryz.prog 50 #[.agg #[.slice a xs.length c, .int .i64 V]] w fun e w' => (∃ r b d : Int, e = .returned (.tuple #[.int .i64 r, .int .i64 b, .int .i64 d]) ∧ (r < 0 ↔ noNeedless xs)) ∧ Below w.heap.size w w' := by
  have b1 := below1 w (.cells #[.slice a xs.length c, .int .i64 V] 30)
  have k0 : (w.alloc (.cells #[.slice a xs.length c, .int .i64 V] 30)).cell? ⟨w.heap.size, 0, none⟩ = some (.slice a xs.length c) := by simp [go_sem]
  obtain ⟨W0, hW0⟩ : ∃ W, W = w.alloc (.cells #[.slice a xs.length c, .int .i64 V] 30) := ⟨_, rfl⟩
  rw [← hW0] at b1 k0
  have HW0 := hid hW0.symm
  have HB0 := hid b1
  have HX := hid (hX.below b1)
  have HK := hid (fun (W : World) (h : Below W0.heap.size W0 W) => cell_below k0 h)
  have HE := hid hE
  clear hX hE hW0 b1
  go_enter Tryz.func50, Tryz.ntmps50
  go_upto_region 1 with fail
  try rw [HW0.out]
  clear HW0
  go_wp2
  clear k0
  go_loopw [19] (fun t19 wr => ∃ (k : Nat), t19 = .int .i64 k ∧ k ≤ xs.length ∧ Hid (∀ j p, j < k → xs[j]? = some p → ∀ i v, p.params[i]? = some v → ¬ needless xs j i v) ∧ Hid (Below W0.heap.size W0 wr)) (fun t19 _ => xs.length - (intOf t19).toNat)
  case atStart => exact ⟨0, rfl, by omega, (by intro j p hj; omega), Below.refl _ _⟩
  case round =>
    obtain ⟨k, rfl, hk, HF, HB⟩ := hrel
    by_cases hkx : k < xs.length
    · obtain ⟨b, off, rfl, hbw, hat⟩ := HX.out.at (by intro e; subst e; simp at hkx)
      have HAT := hid hat
      obtain ⟨ps, cs, go, test, ns, rs, pa, pc, ca, cc, na, nc, ra, rc, c0, c1, c2, c3, c4, c5, l1, l2, l3, l4, HI, HXK⟩ := hat wr HB.out k hkx
      have HB2 := hid (bstep' HB.out (below1 wr (.cells #[.slice pa ps.length pc, .slice ca cs.length cc, .int .i64 go, .int .i64 test, .slice na ns.length nc, .slice ra rs.length rc] 51)))
      obtain ⟨W1, hW1⟩ : ∃ W, W = wr := ⟨_, rfl⟩
      have HBW : Hid (Below W1.heap.size W1 (wr.alloc (.cells #[.slice pa ps.length pc, .slice ca cs.length cc, .int .i64 go, .int .i64 test, .slice na ns.length nc, .slice ra rs.length rc] 51))) := by rw [hW1]; exact below1 wr _
      have HPR := hid HI.out.params
      rw [← hW1] at HPR
      clear hat HI hW1
      go_wp2
      go_loopw [27] (fun t27 wr => ∃ (i : Nat), t27 = .int .i64 i ∧ i ≤ ps.length ∧ Hid (∀ j v, j < i → ps[j]? = some v → ¬ needless xs k j v) ∧ Hid (Below W0.heap.size W0 wr) ∧ Hid (Below W1.heap.size W1 wr)) (fun t27 _ => ps.length - (intOf t27).toNat)
      case atStart => exact ⟨0, rfl, by omega, (by intro j v hj; omega), HB2, HBW⟩
      case round =>
        obtain ⟨i, rfl, hi, HFI, HBI, HBJ⟩ := hrel
        clear HB2 HBW
        have kk := HK.out wr HBI.out
        by_cases hit : i < ps.length
        · obtain ⟨tb, toff, rfl, htb, htat⟩ := HPR.out.at (by intro e; subst e; simp at hit)
          obtain ⟨v, cv, HV⟩ := htat wr HBJ.out i hit
          clear htat
          go_wp2
          clear kk
          go_loopw [9, 10, 35] (fun t9 t10 t35 wr => ∃ (q : Nat), t35 = .int .i64 q ∧ q ≤ xs.length ∧ t9 = .int .i64 ((argsAt (xs.take q) k i).foldl (scanM v) (-1, 0)).1 ∧ t10 = .int .i64 (((argsAt (xs.take q) k i).foldl (scanM v) (-1, 0)).2 : Nat) ∧ Hid (Below W0.heap.size W0 wr) ∧ Hid (Below W1.heap.size W1 wr)) (fun _ _ t35 _ => xs.length - (intOf t35).toNat)
          case atStart => exact ⟨0, rfl, by omega, rfl, rfl, HBI, HBJ⟩
          case round =>
            obtain ⟨q, rfl, hq, rfl, rfl, HBQ, HBR⟩ := hrel
            obtain ⟨acc, hacc⟩ : ∃ l, argsAt (xs.take q) k i = l := ⟨_, rfl⟩
            have hal : acc.length ≤ 66 := by
              rw [← hacc]
              exact Nat.le_trans (argsAt_len (fun p hp => (HE.out p (List.mem_of_mem_take hp)).few) k i) (by rw [List.length_take]; omega)
            rw [hacc]
            by_cases hqx : q < xs.length
            · obtain ⟨ps2, cs2, go2, test2, ns2, rs2, pa2, pc2, ca2, cc2, na2, nc2, ra2, rc2, g0, g1, g2, g3, g4, g5, m1, m2, m3, m4, HI2, HXQ⟩ := HAT.out wr HBQ.out q hqx
              have HAI := hid (HE.out _ (List.mem_of_getElem? HXQ.out))
              have hn6 := HAI.out.few
              simp only [] at hn6
              have HSN : Hid (argsAt (xs.take (q + 1)) k i = acc ++ argsP ⟨ps2, cs2, go2, test2, ns2, rs2⟩ k i ns2.length) := by
                show _ = _
                rw [argsAt_snoc HXQ.out, hacc]
              have bF := below1 wr (.cells #[.slice pa2 ps2.length pc2, .slice ca2 cs2.length cc2, .int .i64 go2, .int .i64 test2, .slice na2 ns2.length nc2, .slice ra2 rs2.length rc2] 51)
              obtain ⟨W2, hW2⟩ : ∃ W, W = wr.alloc (.cells #[.slice pa2 ps2.length pc2, .slice ca2 cs2.length cc2, .int .i64 go2, .int .i64 test2, .slice na2 ns2.length nc2, .slice ra2 rs2.length rc2] 51) := ⟨_, rfl⟩
              obtain ⟨bx, hbx⟩ : ∃ bx, wr.heap.size = bx := ⟨_, rfl⟩
              have e4 : W2.cell? ⟨bx, 4, none⟩ = some (.slice na2 ns2.length nc2) := by rw [hW2, ← hbx]; simp [go_sem]
              have e5 : W2.cell? ⟨bx, 5, none⟩ = some (.slice ra2 rs2.length rc2) := by rw [hW2, ← hbx]; simp [go_sem]
              rw [← hW2] at bF
              have HBQ2 := hid (bstep' HBQ.out bF)
              have HBR2 := hid (bstep' HBR.out bF)
              have HII := hid (And.intro (HI2.out.next.below bF) (HI2.out.args.below bF))
              have HBOX := hid (fun (W : World) (h : Below W2.heap.size W2 W) => cell_below e5 h)
              go_upto_region 12 with fail
              rw [← hW2]
              try rw [hbx]
              clear hW2 hbx HI2 bF g0 g1 g2 g3 g4 g5 e5 hacc HBQ HBR
              go_wp2
              clear e4
              go_loopw [9, 10, 42] (fun t9 t10 t42 wr => ∃ (n : Nat), t42 = .int .i64 n ∧ n ≤ ns2.length ∧ t9 = .int .i64 ((acc ++ argsP ⟨ps2, cs2, go2, test2, ns2, rs2⟩ k i n).foldl (scanM v) (-1, 0)).1 ∧ t10 = .int .i64 (((acc ++ argsP ⟨ps2, cs2, go2, test2, ns2, rs2⟩ k i n).foldl (scanM v) (-1, 0)).2 : Nat) ∧ Hid (Below W2.heap.size W2 wr)) (fun _ _ t42 _ => ns2.length - (intOf t42).toNat)
              case atStart => exact ⟨0, rfl, by omega, (by simp [argsP]), (by simp [argsP]), Below.refl _ _⟩
              case round =>
                obtain ⟨n, rfl, hn, rfl, rfl, HBN⟩ := hrel
                have HBQ3 := hid (bstep' HBQ2.out HBN.out)
                have HBR3 := hid (bstep' HBR2.out HBN.out)
                have hsn := argsP_snoc ⟨ps2, cs2, go2, test2, ns2, rs2⟩ k i n
                have hpl := argsP_len ⟨ps2, cs2, go2, test2, ns2, rs2⟩ k i n
                obtain ⟨L, hL⟩ : ∃ L, acc ++ argsP ⟨ps2, cs2, go2, test2, ns2, rs2⟩ k i n = L := ⟨_, rfl⟩
                have hLl : L.length ≤ 72 := by rw [← hL, List.length_append]; omega
                have hsl := scanM_len v (-1, 0) L
                rw [hL]
                obtain ⟨o, m, hom⟩ : ∃ o m, L.foldl (scanM v) (-1, 0) = (o, m) := ⟨_, _, rfl⟩
                rw [hom] at hsl ⊢
                simp only [] at hsl ⊢
                have hmb : m ≤ 72 := by omega
                have e5 := HBOX.out wr HBN.out
                by_cases hnt : n < ns2.length
                · obtain ⟨xb, xoff, rfl, hxb, xat⟩ := HII.out.1.at (by intro e; subst e; simp at hnt)
                  obtain ⟨x, cx, HVX⟩ := xat wr HBN.out n hnt
                  obtain ⟨l, hl, hlf⟩ := HAI.out.fit n x HVX.out
                  simp only [] at hl
                  have hnr := (List.getElem?_eq_some_iff.1 hl).1
                  obtain ⟨rb, roff, rfl, hrb, rat⟩ := HII.out.2.at (by intro e; subst e; simp at hnr)
                  obtain ⟨t, ta, tc, rv, tl, HRT, HT⟩ := rat wr HBN.out n hnr
                  have htl : l = t := by have := HT.out; rw [hl] at this; exact Option.some.inj this
                  subst htl
                  have HSNP : Hid (∀ z, (if x = (k : Int) then [l[i]?.getD 0] else []) = z → (acc ++ argsP ⟨ps2, cs2, go2, test2, ns2, rs2⟩ k i (n + 1)).foldl (scanM v) (-1, 0) = z.foldl (scanM v) (o, m)) := fun z hz => by
                    rw [hsn, ← List.append_assoc, hL, List.foldl_append, hom]
                    simp only [HVX.out, hl, Option.getD_some, Option.some.injEq]
                    rw [hz]
                  clear xat rat hsn hL hom hsl HT
                  by_cases hxk : x = (k : Int)
                  · have hli := hlf k _ hxk HXK.out
                    simp only [] at hli
                    obtain ⟨tb2, toff2, rfl, htb2, htat2⟩ := HRT.out.at (by intro e; subst e; simp at hli; omega)
                    obtain ⟨y, cy, HVY⟩ := htat2 wr (HBN.out) i (by omega)
                    have HZ := hid (HSNP.out [y] (by rw [if_pos hxk, HVY.out]; rfl))
                    clear htat2 hlf HSNP
                    subst hxk
                    by_cases hy : y ≠ v ∧ y ≠ o
                    · have HZ2 : Hid ((acc ++ argsP ⟨ps2, cs2, go2, test2, ns2, rs2⟩ k i (n + 1)).foldl (scanM v) (-1, 0) = (y, m + 1)) := by
                        show _ = _
                        rw [HZ.out]; simp [scanM, hy.1, hy.2]
                      obtain ⟨hy1, hy2⟩ := hy
                      have hy1' : ((y != v) : Bool) = true := by simp [hy1]
                      have hy2' : ((y != o) : Bool) = true := by simp [hy2]
                      go_wp2
                      go_roundw
                      case rel => exact ⟨n + 1, by go_num, by omega, by rw [HZ2.out], by rw [HZ2.out]; go_num, HBN⟩
                      case measure => simp [intOf]; omega
                    · have HZ2 : Hid ((acc ++ argsP ⟨ps2, cs2, go2, test2, ns2, rs2⟩ k i (n + 1)).foldl (scanM v) (-1, 0) = (o, m)) := by
                        show _ = _
                        rw [HZ.out]; simp only [List.foldl_cons, List.foldl_nil, scanM, if_neg hy]
                      by_cases hy1 : y = v
                      · subst hy1
                        go_wp2
                        go_roundw
                        case rel => exact ⟨n + 1, by go_num, by omega, by rw [HZ2.out], by rw [HZ2.out], HBN⟩
                        case measure => simp [intOf]; omega
                      · have hy2 : y = o := Classical.byContradiction fun h => hy ⟨hy1, h⟩
                        have hy1' : ((y != v) : Bool) = true := by simp [hy1]
                        subst hy2
                        go_wp2
                        go_roundw
                        case rel => exact ⟨n + 1, by go_num, by omega, by rw [HZ2.out], by rw [HZ2.out], HBN⟩
                        case measure => simp [intOf]; omega
                  · have HZ2 : Hid ((acc ++ argsP ⟨ps2, cs2, go2, test2, ns2, rs2⟩ k i (n + 1)).foldl (scanM v) (-1, 0) = (o, m)) := by
                      show _ = _
                      rw [HSNP.out [] (by rw [if_neg hxk])]; rfl
                    clear HSNP hlf
                    go_wp2
                    go_roundw
                    case rel => exact ⟨n + 1, by go_num, by omega, by rw [HZ2.out], by rw [HZ2.out], HBN⟩
                    case measure => simp [intOf]; omega
                · obtain rfl : n = ns2.length := by omega
                  have HZ2 : Hid ((argsAt (xs.take (q + 1)) k i).foldl (scanM v) (-1, 0) = (o, m)) := by
                    show _ = _
                    rw [HSN.out, hL, hom]
                  clear hsn hpl hL hom hsl
                  go_wp2
                  go_roundw
                  case rel => exact ⟨q + 1, by go_num, by omega, by rw [HZ2.out], by rw [HZ2.out], HBQ3, HBR3⟩
                  case measure => simp [intOf]; omega
            · obtain rfl : q = xs.length := by omega
              rw [List.take_of_length_le (Nat.le_refl _)] at hacc
              have hsl := scanM_len v (-1, 0) acc
              obtain ⟨o, m, hom⟩ : ∃ o m, acc.foldl (scanM v) (-1, 0) = (o, m) := ⟨_, _, rfl⟩
              have HND : Hid (needless xs k i v ↔ m = 1) := by
                show _ ↔ _
                unfold needless
                rw [hacc, hom]
              rw [hom] at hsl ⊢
              simp only [] at hsl ⊢
              clear hacc hom
              by_cases hm : m = 1
              · subst hm
                have HBAD : Hid (¬ noNeedless xs) := fun h => h k _ HXK.out i v HV.out (HND.out.2 rfl)
                go_wp2
                (try simp only [Exit.inBlock, Exit.then]); refine bodyPost_ret (results_tmp3 rfl _ _ _) rfl ?_
                exact ⟨⟨(k : Int), ⟨(i : Int), o, rfl⟩, ⟨fun h => absurd h (by omega), fun h => absurd h HBAD.out⟩⟩, bstep' HB0.out HBQ.out⟩
              · have hm' : ¬ ((m : Int) = 1) := by omega
                have HF3 : Hid (∀ j v, j < i + 1 → ps[j]? = some v → ¬ needless xs k j v) := fun j u hj hu => by
                  by_cases e : j = i
                  · subst e
                    rw [HV.out] at hu; cases hu
                    rw [HND.out]; exact hm
                  · exact HFI.out j u (by omega) hu
                go_wp2
                go_roundw
                case rel => exact ⟨i + 1, by go_num, by omega, HF3, HBQ, HBR⟩
                case measure => simp [intOf]; omega
        · obtain rfl : i = ps.length := by omega
          have HF2 : Hid (∀ j p, j < k + 1 → xs[j]? = some p → ∀ i v, p.params[i]? = some v → ¬ needless xs j i v) := by
            intro j p hj hp i v hv
            by_cases e : j = k
            · subst e
              rw [HXK.out] at hp; cases hp
              exact HFI.out i v (List.getElem?_eq_some_iff.1 hv).1 hv
            · exact HF.out j p (by omega) hp i v hv
          clear kk
          go_wp2
          go_roundw
          case rel => exact ⟨k + 1, by go_num, by omega, HF2, HBI⟩
          case measure => simp [intOf]; omega
    · obtain rfl : k = xs.length := by omega
      have HFIN : Hid (noNeedless xs) := fun k p hp => HF.out k p (List.getElem?_eq_some_iff.1 hp).1 hp
      go_wp2
      (try simp only [Exit.inBlock, Exit.then]); refine bodyPost_ret (results_tmp3 rfl _ _ _) rfl ?_
      first | exact ⟨⟨-1, 0, 0, rfl, ⟨fun _ => HFIN.out, fun _ => by omega⟩⟩, bstep' HB0.out HB.out⟩ | exact ⟨⟨-1, ⟨0, 0, rfl⟩, ⟨fun _ => HFIN.out, fun _ => by omega⟩⟩, bstep' HB0.out HB.out⟩
end Go.Proofs.YteihecnmnajahaaGreatDoor
