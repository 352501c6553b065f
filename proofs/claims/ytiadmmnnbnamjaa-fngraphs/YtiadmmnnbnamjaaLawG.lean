/- The law on graphs is true at every list of bytes. -/
import Derived.Test.YtiadmmnnbnamjaaGFx
import Derived.Test.YtiadmmnnbnamjaaOrdG
import Derived.Test.YtiadmmnnbnamjaaSameG
import Derived.Test.YtiadmmnnbnamjaaLawBB
import Derived.Test.YtiadmmnnbnamjaaIback8
import Derived.Test.YtiadmmnnbnamjaaSback8
namespace Go.Proofs.Ytiadmmnnbnamjaa
open Go.RowKit
set_option linter.unusedVariables false
set_option linter.unusedSimpArgs false
set_option maxRecDepth 100000

/-- an order that is told by both -/
def OrdAns (g : List (List Nat)) (e : Ending) (w w' : World) : Prop := ∃ va vc, e = .returned (.tuple #[.slice va (order7 g).length vc, .bool true]) ∧ Row w' va (nats (order7 g)) ∧ Below w.heap.size w w'
def ListAns (n : Nat) (yy : List (List Int)) (e : Ending) (w w' : World) : Prop := ∃ va vc, e = .returned (.tuple #[.slice va n vc, .bool true]) ∧ LRow w' va yy ∧ Below w.heap.size w w'
theorem listans_of {e : Ending} {w w' : World} {yy : List (List Int)} {n : Nat} {v : Value} {ys : List LV} (he : e = .returned (.tuple #[v, .bool true])) (ho : OwnL w' w.heap.size v ys) (hy : lists ys = yy) (hn : yy.length = n) (hb : Below w.heap.size w w') : ListAns n yy e w w' := by
  obtain ⟨a, c, rfl, hr⟩ := ho.row
  rw [hy] at he hr
  rw [hn] at he
  exact ⟨a, c, he, hr, hb⟩
/-- what the calls tell of a good graph -/
structure TellG (g D : List (List Nat)) : Prop where
  gr : Gr g
  doms : IsDoms g D
  iord : ∀ a c w, GRow w a g → Calls Try.prog 5 #[.agg #[.slice a g.length c]] w fun e w' => OrdAns g e w w'
  sord : ∀ a c w, GRow w a g → Calls Try.prog 6 #[.agg #[.slice a g.length c]] w fun e w' => OrdAns g e w w'
  idom : ∀ a c w, GRow w a g → Calls Try.prog 7 #[.agg #[.slice a g.length c]] w fun e w' => ListAns g.length (natsL D) e w w'
  sdom : ∀ a c w, GRow w a g → Calls Try.prog 8 #[.agg #[.slice a g.length c]] w fun e w' => ListAns g.length (natsL D) e w w'
  iback : ∀ a c w, GRow w a g → Calls Try.prog 9 #[.agg #[.slice a g.length c]] w fun e w' => ListAns (backL g D).length (pairsL (backL g D)) e w w'
  sback : ∀ a c w, GRow w a g → Calls Try.prog 10 #[.agg #[.slice a g.length c]] w fun e w' => ListAns (backL g D).length (pairsL (backL g D)) e w w'
  ired : ∀ a c w, GRow w a g → Calls Try.prog 13 #[.agg #[.slice a g.length c]] w fun e w' => (∃ rr : Bool, e = .returned (.tuple #[.bool rr, .bool true]) ∧ (rr = true → ¬ Cyc2 g D)) ∧ Below w.heap.size w w'
  ordf : (order7 g).length ≤ 12
  backf : (backL g D).length ≤ 1000
theorem doms_len {g D : List (List Nat)} (h : IsDoms g D) : (natsL D).length = g.length := by simp [natsL, h.1]
theorem backs_len (es : List (Nat × Nat)) : (pairsL es).length = es.length := by simp [pairsL]
theorem back_few {g D : List (List Nat)} (G : Gr g) : (backL g D).length ≤ 1000 := by
  have h1 := List.length_filter_le (isB D) (edgesL g)
  have h2 := edges_few G (setL (order7 g))
  have h3 := setL_len (order7 g)
  have h4 := (dfs_len G).1
  unfold backL
  unfold edgesL at h1 ⊢
  omega
theorem tells {g : List (List Nat)} (G : Gr g) (hG : GoodG (g.map nats)) : ∃ D, TellG g D := by
  obtain ⟨D, hD⟩ := doms_are G
  refine ⟨D, ⟨G, hD, fun a c w h => ?_, fun a c w h => ?_, fun a c w h => ?_, fun a c w h => ?_, fun a c w h => ?_, fun a c w h => ?_, fun a c w h => ?_, (dfs_len G).1, back_few G⟩⟩
  · refine (iOrderOf_good G a c w h hG).mono ?_
    rintro e w' ⟨va, vc, rfl, ho, hb⟩
    exact ⟨va, vc, rfl, own_row (c := vc) (B := w.heap.size) (by rw [nats_length]; exact ho), hb⟩
  · refine (sOrderOf_good G a c w h hG).mono ?_
    rintro e w' ⟨va, vc, rfl, ho, hb⟩
    exact ⟨va, vc, rfl, own_row (c := vc) (B := w.heap.size) (by rw [nats_length]; exact ho), hb⟩
  · refine (iDominatorsIn_good G a c w h hG).mono ?_
    rintro e w' ⟨v, ys, P', rfl, ho, hy, hP', hb⟩
    exact listans_of rfl ho (by rw [hy, hP'.unique hD]) (doms_len hD) hb
  · refine (sDominatorsIn_good G a c w h hG).mono ?_
    rintro e w' ⟨va, vc, ys, P', rfl, ho, hy, hP', hb⟩
    exact listans_of rfl ho (by rw [hy, hP'.unique hD]) (doms_len hD) hb
  · refine (iBackEdgesIn_good G a c w h hG).mono ?_
    rintro e w' ⟨v, ys, P', rfl, ho, hP', hy, hb⟩
    exact listans_of rfl ho (by rw [hy, hP'.unique hD]) (backs_len _) hb
  · refine (sBackEdgesIn_good G hD a c w h hG).mono ?_
    rintro e w' ⟨v, ys, rfl, ho, hy, hb⟩
    exact listans_of rfl ho hy (backs_len _) hb
  · refine (iIsReducible_good G a c w h hG).mono ?_
    rintro e w' ⟨⟨b, P', rfl, hP', hb1⟩, hb⟩
    exact ⟨⟨!b, rfl, by rw [hP'.unique hD] at hb1; cases b <;> simp_all⟩, hb⟩
theorem sameI {a a' : Option Addr} (c c' : Nat) {xs : List Int} {n : Nat} {w : World} (hn : xs.length = n) (hl : n ≤ 1000) (h : Row w a xs) (h' : Row w a' xs) :
    Calls Try.prog 11 #[.slice a n c, .slice a' n c'] w fun e w' => e = .returned (.bool true) ∧ Below w.heap.size w w' := by
  subst hn
  refine (sameInts_same a a' c c' xs w (by omega) h h').mono ?_
  rintro e w' ⟨rfl, q, rfl⟩
  exact ⟨rfl, below_drewN (Below.refl _ _) _⟩
theorem sameL {a a' : Option Addr} (c c' : Nat) {xs : List (List Int)} {n : Nat} {w : World} (hn : xs.length = n) (hl : n ≤ 1000) (h : LRow w a xs) (h' : LRow w a' xs) :
    Calls Try.prog 12 #[.slice a n c, .slice a' n c'] w fun e w' => e = .returned (.bool true) ∧ Below w.heap.size w w' := by
  subst hn
  exact sameLists_same a a' c c' xs w (by omega) h h'
theorem own_lrow' {w : World} {B n c : Nat} {a : Option Addr} {ys : List LV} {yy : List (List Int)} (h : OwnL w B (.slice a n c) ys) (hy : lists ys = yy) : LRow w a yy := own_lrow h hy
theorem own_first (w : World) (n nb : Nat) (hn : n ≤ 1000) (h0 : 0 < n) (hnb : w.heap.size = nb) : (w.alloc (.cells (madeCells #[.int .i64 0] n) 3)).ownsRow nb 3 1 (.slice (some ⟨nb, 0, none⟩) n n) n (ints (List.replicate n 0)) := by
  subst hnb
  refine ⟨by rw [ints_length]; simp, .inr ⟨w.heap.size, n, madeCells #[.int .i64 0] n, rfl, Nat.le_refl _, heap_alloc_new _ _, Nat.le_refl _, by unfold maxLen; omega, by simp [madeCells], ?_⟩⟩
  rw [made_ints]
  exact List.take_of_length_le (by rw [ints_length]; simp)
theorem ints_set (xs : List Int) (j : Nat) (y : Int) : (ints xs).set j (.int .i64 y) = ints (xs.set j y) := by simp [ints, List.map_set]
theorem own_put {w : World} {B g n c : Nat} {xs : List Int} (h : w.ownsRow B 3 1 (.slice (some ⟨g, 0, none⟩) n c) n (ints xs)) (j : Nat) (y : Int) : (w.setCell ⟨g, j, none⟩ (.int .i64 y)).ownsRow B 3 1 (.slice (some ⟨g, 0, none⟩) n c) n (ints (xs.set j y)) := by
  have := Sep.store [] (sep_one h) j (.int .i64 y)
  rw [ints_set] at this
  exact one_sep this
theorem own_row' {w : World} {B n c : Nat} {a : Option Addr} {xs : List Int} (h : w.ownsRow B 3 1 (.slice a n c) n (ints xs)) (hn : xs.length = n) : Row w a xs := own_row (c := c) (B := B) (by rw [hn]; exact h)

theorem GRow.cells {w : World} {a : Option Addr} {g : List (List Nat)} (h : LRow w a (natsL g)) (hp : 0 < g.length) : ∃ b off, a = some ⟨b, off, none⟩ ∧ ∀ k l, g[k]? = some l → ∃ ta tc, w.cell? ⟨b, off + k, none⟩ = some (.slice ta l.length tc) ∧ Row w ta (nats l) := by
  rcases h with h | ⟨b, off, rfl, hat⟩
  · exfalso
    have := congrArg List.length h
    simp [natsL] at this
    subst this
    simp at hp
  · refine ⟨b, off, rfl, fun k l hk => ?_⟩
    obtain ⟨ta, tc, _, hc, hr⟩ := hat k (nats l) (by simp [natsL, hk])
    rw [nats_length] at hc
    exact ⟨ta, tc, hc, hr⟩
theorem Row.cells {w : World} {a : Option Addr} {l : List Nat} (h : Row w a (nats l)) (hp : 0 < l.length) : ∃ b off, a = some ⟨b, off, none⟩ ∧ ∀ (k x : Nat), l[k]? = some x → w.cell? ⟨b, off + k, none⟩ = some (.int .i64 (x : Int)) := by
  rcases h with h | ⟨b, off, rfl, hat⟩
  · exfalso
    have := congrArg List.length h
    rw [nats_length] at this
    simp at this
    subst this
    simp at hp
  · refine ⟨b, off, rfl, fun k x hk => ?_⟩
    have hkl := (List.getElem?_eq_some_iff.1 hk).1
    rw [hat k (by rw [nats_length]; exact hkl)]
    simp [nats, hk]

set_option maxHeartbeats 8000000 in
theorem lawGraphs (a : Option Addr) (c : Nat) (zs : List Int) (w : World) (h : Code w a zs) :
    Calls Try.prog 3 #[.slice a zs.length c] w fun e w' => e = .returned (.bool true) ∧ Below w.heap.size w w' := by
  have hl := h.1
  by_cases hlen : 1048576 < zs.length
  · clear h
    go_enter Try.func3, Try.ntmps3
    go_wp2
    go_ret
    exact ⟨rfl, Below.refl _ _⟩
  have HD := hid (drawOrder_any a c zs w h)
  clear h
  go_enter Try.func3, Try.ntmps3
  go_wp2_with fail
  refine HD.out.mono ?_
  rintro e w1 ⟨v, ys, rfl, ho, hy, hb1⟩
  obtain ⟨ga, gc, rfl, hr1⟩ := ho.row
  have hx13 : (lists ys).length ≤ 13 := by rw [lists_length]; exact hy
  generalize lists ys = xs at hr1 hx13 ⊢
  clear ho hy HD
  have b2 := below1 w1 (.cells #[.slice ga xs.length gc] 25)
  have B2 := hid (bstep' hb1 b2)
  have x2 : (w1.alloc (.cells #[.slice ga xs.length gc] 25)).cell? ⟨w1.heap.size, 0, none⟩ = some (.slice ga xs.length gc) := by simp [go_sem]
  have R2 := hid (hr1.below b2)
  clear hr1 b2 hb1
  by_cases hG : GoodG xs
  · obtain ⟨g, rfl, Gg⟩ := hG.graph
    obtain ⟨D, T⟩ := tells Gg hG
    have hgm := Gg.most
    have hgp := Gg.pos
    have HT := hid T
    rw [List.length_map] at x2 B2 R2 ⊢
    clear T hG
    go_wp2_with fail
    refine (HT.out.iord ga gc _ R2.out).mono ?_
    rintro e w3 ⟨oa, oc, rfl, O3, hb3⟩
    have x3 := cell_below x2 hb3
    have H3 := hid (And.intro (bstep' B2.out hb3) (And.intro (R2.out.below hb3) O3))
    clear hb3 O3 x2 B2 R2
    go_wp2_with fail
    refine (HT.out.sord ga gc _ H3.out.2.1).mono ?_
    rintro e w4 ⟨oa', oc', rfl, O4, hb4⟩
    have x4 := cell_below x3 hb4
    have H4 := hid (And.intro (bstep' H3.out.1 hb4) (And.intro (H3.out.2.1.below hb4) (And.intro (H3.out.2.2.below hb4) O4)))
    clear hb4 O4 x3 H3
    go_wp2_with fail
    refine (HT.out.idom ga gc _ H4.out.2.1).mono ?_
    rintro e w5 ⟨da, dc, rfl, O5, hb5⟩
    have x5 := cell_below x4 hb5
    have H5 := hid (And.intro (bstep' H4.out.1 hb5) (And.intro (H4.out.2.1.below hb5) (And.intro (H4.out.2.2.1.below hb5) (And.intro (H4.out.2.2.2.below hb5) O5))))
    clear hb5 O5 x4 H4
    go_wp2_with fail
    refine (HT.out.sdom ga gc _ H5.out.2.1).mono ?_
    rintro e w6 ⟨da', dc', rfl, O6, hb6⟩
    have x6 := cell_below x5 hb6
    have H6 := hid (And.intro (bstep' H5.out.1 hb6) (And.intro (H5.out.2.1.below hb6) (And.intro (H5.out.2.2.1.below hb6) (And.intro (H5.out.2.2.2.1.below hb6) (And.intro (H5.out.2.2.2.2.below hb6) O6)))))
    clear hb6 O6 x5 H5
    go_wp2_with fail
    refine (HT.out.iback ga gc _ H6.out.2.1).mono ?_
    rintro e w7 ⟨ba, bc, rfl, O7, hb7⟩
    have x7 := cell_below x6 hb7
    have H7 := hid (And.intro (bstep' H6.out.1 hb7) (And.intro (H6.out.2.1.below hb7) (And.intro (H6.out.2.2.1.below hb7) (And.intro (H6.out.2.2.2.1.below hb7) (And.intro (H6.out.2.2.2.2.1.below hb7) (And.intro (H6.out.2.2.2.2.2.below hb7) O7))))))
    clear hb7 O7 x6 H6
    go_wp2_with fail
    refine (HT.out.sback ga gc _ H7.out.2.1).mono ?_
    rintro e w8 ⟨ba', bc', rfl, O8, hb8⟩
    have x8 := cell_below x7 hb8
    have HA8 : Hid (Below w.heap.size w w8 ∧ GRow w8 ga g ∧ Row w8 oa (nats (order7 g)) ∧ LRow w8 da (natsL D) ∧ LRow w8 ba (pairsL (backL g D))) := ⟨bstep' H7.out.1 hb8, H7.out.2.1.below hb8, H7.out.2.2.1.below hb8, H7.out.2.2.2.2.1.below hb8, H7.out.2.2.2.2.2.2.below hb8⟩
    have HB8 : Hid (Row w8 oa' (nats (order7 g)) ∧ LRow w8 da' (natsL D) ∧ LRow w8 ba' (pairsL (backL g D))) := ⟨H7.out.2.2.2.1.below hb8, H7.out.2.2.2.2.2.1.below hb8, O8⟩
    clear hb8 O8 x7 H7
    go_wp2_with fail
    refine (sameI oc oc' (nats_length _) (by have := HT.out.ordf; omega) HA8.out.2.2.1 HB8.out.1).mono ?_
    rintro e w9 ⟨rfl, hb9⟩
    have Q9 := hid hb9
    clear hb9
    go_wp2_with fail
    refine (sameL dc dc' (doms_len HT.out.doms) (by omega) (HA8.out.2.2.2.1.below Q9.out) (HB8.out.2.1.below Q9.out)).mono ?_
    rintro e w10 ⟨rfl, hb10⟩
    have Q10 := hid (bstep' Q9.out hb10)
    clear hb10 Q9
    go_wp2_with fail
    refine (sameL bc bc' (backs_len _) HT.out.backf (HA8.out.2.2.2.2.below Q10.out) (HB8.out.2.2.below Q10.out)).mono ?_
    rintro e w11 ⟨rfl, hb11⟩
    have Q11 := hid (bstep' Q10.out hb11)
    have x11 := cell_below x8 Q11.out
    clear hb11 Q10 HB8 x8
    have hmk := fun W => run_make_row' (P := Try.prog) 27 3 (.int .i64 0) 8 Try.underlying27 info3 rfl .i64 .i64 g.length (by omega) (by omega) W
    have ho12 := HT.out.ordf
    obtain ⟨r0, hr0⟩ := order_zero Gg
    have hop : 0 < (order7 g).length := by rw [hr0]; simp
    obtain ⟨ob, ooff, rfl, hoat⟩ := Row.cells (HA8.out.2.2.1.below Q11.out) hop
    have hobl : ob < w11.heap.size := World.block_lt_of_cell? w11 _ (hoat 0 0 (by rw [hr0]; rfl))
    have HOA := hid hoat
    have HR0 := hid hr0
    have HN := hid (order_nodup Gg)
    have HOL := hid (order_lt Gg)
    have O0 := hid (own_first w11 g.length _ (by omega) (by omega) rfl)
    have hbl := below1 w11 (.cells (madeCells #[.int .i64 0] g.length) 3)
    have HB12 := hid hbl
    clear hoat hr0 hbl
    go_wp2
    clear hmk
    go_loopw [107] (fun t107 wr => ∃ (i : Nat) (ps : List Int), t107 = .int .i64 i ∧ i ≤ g.length ∧ ps.length = g.length ∧ (∀ j, j < i → ps[j]? = some (-1)) ∧ wr.ownsRow w11.heap.size 3 1 (.slice (some ⟨w11.heap.size, 0, none⟩) g.length g.length) g.length (ints ps) ∧ Below w11.heap.size w11 wr) (fun t107 _ => g.length - (intOf t107).toNat)
    case atStart => exact ⟨0, _, rfl, by omega, by simp, by omega, O0.out, HB12.out⟩
    case round =>
      obtain ⟨i, ps, rfl, hi, hpl, hps, hown, hB⟩ := hrel
      have HP := hid (And.intro hpl (And.intro hps (And.intro hown hB)))
      by_cases hit : i < g.length
      · obtain ⟨p0, hp0⟩ : ∃ p0, ps[i]? = some p0 := ⟨_, List.getElem?_eq_getElem (by omega)⟩
        have ci : wr.cell? ⟨w11.heap.size, i, none⟩ = some (.int .i64 p0) := rowT_at hown rfl (by simp [ints, hp0])
        have fi : wr.frozen? ⟨w11.heap.size, i, none⟩ = false := rowT_frz hown rfl i
        clear hpl hps hown hB hp0
        go_wp2
        go_roundw
        case rel =>
          refine ⟨i + 1, ps.set i (-1), by go_num, by omega, by rw [List.length_set]; exact HP.out.1, fun j hj => ?_, own_put HP.out.2.2.1 i (-1), HP.out.2.2.2.setCell (Nat.le_refl _) _⟩
          by_cases e : j = i
          · subst e; rw [List.getElem?_set_self (by rw [HP.out.1]; exact hit)]
          · rw [List.getElem?_set_ne (fun h => e h.symm)]; exact HP.out.2.1 j (by omega)
        case measure => simp [intOf]; omega
      · obtain rfl : i = g.length := by omega
        have HO1 : Hid (wr.ownsRow w11.heap.size 3 1 (.slice (some ⟨w11.heap.size, 0, none⟩) g.length g.length) g.length (ints (plcI g.length (order7 g) 0)) ∧ Below w11.heap.size w11 wr) := by
          refine ⟨?_, hB⟩
          have e : ps = plcI g.length (order7 g) 0 := by
            rw [plcI_zero]
            apply List.ext_getElem?
            intro j
            by_cases hj : j < g.length
            · rw [hps j hj]; simp [hj]
            · rw [List.getElem?_eq_none (by omega), List.getElem?_eq_none (by simp; omega)]
          rw [← e]; exact hown
        clear hpl hps hown hB HP O0 HB12
        obtain ⟨wo, hwo⟩ : ∃ wo : World, wo = wr := ⟨_, rfl⟩
        go_wp2
        go_loopw [116] (fun t116 wr => ∃ (i : Nat), t116 = .int .i64 i ∧ i ≤ (order7 g).length ∧ wr.ownsRow w11.heap.size 3 1 (.slice (some ⟨w11.heap.size, 0, none⟩) g.length g.length) g.length (ints (plcI g.length (order7 g) i)) ∧ Below w11.heap.size w11 wr) (fun t116 _ => (order7 g).length - (intOf t116).toNat)
        case atStart => exact ⟨0, rfl, by omega, HO1.out.1, HO1.out.2⟩
        case round =>
          obtain ⟨i, rfl, hi, hown, hB⟩ := hrel
          have HP := hid (And.intro hown hB)
          by_cases hit : i < (order7 g).length
          · obtain ⟨k, hk⟩ : ∃ k, (order7 g)[i]? = some k := ⟨_, List.getElem?_eq_getElem hit⟩
            have hkN : k < g.length := HOL.out k (List.mem_of_getElem? hk)
            have co : wr.cell? ⟨ob, ooff + i, none⟩ = some (.int .i64 (k : Int)) := by rw [hB.cell (p := ⟨ob, ooff + i, none⟩) hobl]; exact HOA.out i k hk
            have cp : wr.cell? ⟨w11.heap.size, k, none⟩ = some (.int .i64 (-1)) := rowT_at hown rfl (by simp [ints, plcI_at (order7 g) i hkN, plcI_none HN.out hk])
            have fp : wr.frozen? ⟨w11.heap.size, k, none⟩ = false := rowT_frz hown rfl k
            have HK := hid hk
            clear hown hB hk
            go_wp2
            go_roundw
            case rel =>
              refine ⟨i + 1, by go_num, by omega, ?_, HP.out.2.setCell (Nat.le_refl _) _⟩
              rw [← plcI_step HN.out HK.out hkN]
              exact own_put HP.out.1 k i
            case measure => simp [intOf]; omega
          · obtain rfl : i = (order7 g).length := by omega
            have xr : wr.cell? ⟨w1.heap.size, 0, none⟩ = some (.slice ga g.length gc) := cell_below x11 hB
            have B8 : Hid (Below w8.heap.size w8 wr) := bstep' Q11.out hB
            clear hown hB HO1 x11
            go_wp2_with fail
            refine (HT.out.ired ga gc _ (HA8.out.2.1.below B8.out)).mono ?_
            rintro e w12 ⟨⟨rr, rfl, hrr⟩, hb12⟩
            have BA : Hid (Below w8.heap.size w8 w12) := bstep' B8.out hb12
            have x12 := cell_below xr hb12
            have HRR := hid hrr
            have HPL : Hid (∀ k, k < g.length → w12.cell? ⟨w11.heap.size, k, none⟩ = some (.int .i64 (pl g k))) := fun k hk => cell_below (rowT_at HP.out.1 rfl (by simp [ints, plcI_at (order7 g) _ hk, pl])) hb12
            have c0 : w12.cell? ⟨ob, ooff, none⟩ = some (.int .i64 0) := by
              have h1 := HOA.out 0 0 (by rw [HR0.out]; rfl)
              rw [hb12.cell (p := ⟨ob, ooff, none⟩) (by show ob < _; have := HP.out.2.size; omega), HP.out.2.cell (p := ⟨ob, ooff, none⟩) hobl]
              exact h1
            obtain ⟨db, doff, rfl, hdat⟩ := GRow.cells (HA8.out.2.2.2.1.below BA.out) (by rw [HT.out.doms.1]; omega)
            obtain ⟨gb, goff, rfl, hgat⟩ := GRow.cells (g := g) (HA8.out.2.1.below BA.out) hgp
            have HDA := hid hdat
            have HGA := hid hgat
            have HBA := hid (HA8.out.2.2.2.2.below BA.out)
            have HBW : Hid (Below w.heap.size w w12) := bstep' HA8.out.1 BA.out
            have HDS := hid HT.out.doms
            have hbf := HT.out.backf
            clear hrr hdat hgat hb12 xr B8 HP HA8 BA Q11 HOA HR0 HN HOL HT
            go_wp2
            go_loopw [146] (fun t146 wr => ∃ (k q : Nat), t146 = .int .i64 k ∧ k ≤ g.length ∧ wr = w12.drewN q) (fun t146 _ => g.length - (intOf t146).toNat)
            case atStart => exact ⟨0, 0, rfl, by omega, rfl⟩
            case round =>
              obtain ⟨k, q, rfl, hk, rfl⟩ := hrel
              by_cases hkt : k < g.length
              · obtain ⟨r, hr⟩ : ∃ r, D[k]? = some r := ⟨_, List.getElem?_eq_getElem (by rw [HDS.out.1]; exact hkt)⟩
                obtain ⟨l, hl⟩ : ∃ l, g[k]? = some l := ⟨_, List.getElem?_eq_getElem hkt⟩
                obtain ⟨ra, rc, cr, rowr⟩ := HDA.out k r hr
                obtain ⟨la, lc, cl, rowl⟩ := HGA.out k l hl
                have cp := HPL.out k hkt
                have hrl : r.length ≤ 12 := by have h1 := nodup_le (n := g.length) (rising_nodup (HDS.out.2 _ r hr).1) (fun j hj => RchW.lt Gg (((HDS.out.2 _ r hr).2 j).1 hj).2.1); omega
                have hll : l.length ≤ 12 := by have h1 := nodup_le (n := g.length) (rising_nodup (Gg.rising _ l hl)) (fun j hj => Gg.below _ l hl j hj); omega
                have hsome := doms_some Gg HDS.out hr
                have hsm := pl_small Gg k
                have HAH := hid (fun x (hx : x ∈ r) => doms_ahead Gg HDS.out hr hx)
                have HRT := hid (fun x (hx : x ∈ l) (hrr : rr = true) => retreat_has Gg HDS.out (HRR.out hrr) hr hl hx)
                have HLB := hid (fun x (hx : x ∈ l) => Gg.below k l hl x hx)
                obtain ⟨p, hp⟩ : ∃ p, pl g k = p := ⟨_, rfl⟩
                rw [hp] at cp hsome hsm HAH HRT
                have hAB : (!decide (0 < r.length) == decide (0 ≤ p)) = false := by
                  by_cases h0 : 0 < r.length
                  · have := hsome.1 h0; simp [h0, this]
                  · have : ¬ 0 ≤ p := fun h => h0 (hsome.2 h)
                    simp [h0, this]
                have HRR2 := hid (And.intro rowr rowl)
                obtain ⟨hp1, hp2⟩ := hsm
                clear hr hl rowr rowl hsome hp
                go_wp2
                clear hAB
                go_loopw [162] (fun t162 wq => ∃ (j q : Nat), t162 = .int .i64 j ∧ j ≤ r.length ∧ wq = w12.drewN q) (fun t162 _ => r.length - (intOf t162).toNat)
                case atStart => exact ⟨0, q, rfl, by omega, rfl⟩
                case round =>
                  obtain ⟨j, q, rfl, hj, rfl⟩ := hrel
                  by_cases hjt : j < r.length
                  · obtain ⟨x, hx⟩ : ∃ x, r[j]? = some x := ⟨_, List.getElem?_eq_getElem hjt⟩
                    obtain ⟨rb, roff, rfl, hrat⟩ := Row.cells HRR2.out.1 (by omega)
                    have cx := hrat j x hx
                    obtain ⟨hxN, hxp⟩ := HAH.out x (List.mem_of_getElem? hx)
                    have cq := HPL.out x hxN
                    have hdx : decide (p < pl g x) = false := decide_eq_false (by omega)
                    obtain ⟨px, hpx⟩ : ∃ px, pl g x = px := ⟨_, rfl⟩
                    rw [hpx] at cq hdx
                    clear hrat hx hpx hxp
                    go_wp2
                    go_quiet (fail)
                    go_wp2
                    go_roundw
                    case rel => exact ⟨j + 1, q + nq, by go_num, by omega, by simp⟩
                    case measure => simp [intOf]; omega
                  · go_wp2
                    generalize decide (0 ≤ p) = bp
                    generalize decide (0 < r.length) = br
                    go_loopw [182] (fun t182 wq => ∃ (j q : Nat), t182 = .int .i64 j ∧ j ≤ l.length ∧ wq = w12.drewN q) (fun t182 _ => l.length - (intOf t182).toNat)
                    case atStart => exact ⟨0, q, rfl, by omega, rfl⟩
                    case round =>
                      obtain ⟨i, q, rfl, hi, hwq⟩ := hrel
                      have HWQ := hid hwq
                      have cp2 : wr.cell? ⟨w11.heap.size, k, none⟩ = some (.int .i64 p) := by rw [hwq]; exact cp
                      have cr2 : wr.cell? ⟨db, doff + k, none⟩ = some (.slice ra r.length rc) := by rw [hwq]; exact cr
                      by_cases hit : i < l.length
                      · obtain ⟨x, hx⟩ : ∃ x, l[i]? = some x := ⟨_, List.getElem?_eq_getElem hit⟩
                        have hxl := List.mem_of_getElem? hx
                        obtain ⟨lb, loff, rfl, hlat⟩ := Row.cells HRR2.out.2 (by omega)
                        have cx : wr.cell? ⟨lb, loff + i, none⟩ = some (.int .i64 (x : Int)) := by rw [hwq]; exact hlat i x hx
                        have hxN := HLB.out x hxl
                        have cq : wr.cell? ⟨w11.heap.size, x, none⟩ = some (.int .i64 (pl g x)) := by rw [hwq]; exact HPL.out x hxN
                        have HH := hid (fun n => hasL_any ra rc r x (wr.drewN n) (by omega) (by rw [HWQ.out]; exact (HRR2.out.1.drewN q).drewN n))
                        have HRX := hid (HRT.out x hxl)
                        obtain ⟨px, hpx⟩ : ∃ px, pl g x = px := ⟨_, rfl⟩
                        rw [hpx] at cq HRX
                        clear hlat hx hpx hxl hwq
                        by_cases g1 : 0 ≤ p
                        · have d1 : decide (0 ≤ p) = true := decide_eq_true g1
                          by_cases g2 : px ≤ p
                          · have d2 : decide (px ≤ p) = true := decide_eq_true g2
                            cases rr
                            · go_wp2
                              go_quiet (fail)
                              go_wp2
                              go_roundw
                              case rel => exact ⟨i + 1, q + nq, by go_num, by omega, by rw [HWQ.out]; simp⟩
                              case measure => simp [intOf]; omega
                            · have hin := HRX.out rfl g1 g2
                              rw [decide_eq_true hin] at HH
                              clear hin
                              go_wp2
                              go_quiet (first | (go_at_call 14; refine Calls.quiet_of_same (HH.out _)))
                              go_wp2
                              go_roundw
                              case rel => exact ⟨i + 1, q + nq, by go_num, by omega, by rw [HWQ.out]; simp⟩
                              case measure => simp [intOf]; omega
                          · have d2 : decide (px ≤ p) = false := decide_eq_false g2
                            go_wp2
                            go_quiet (fail)
                            go_wp2
                            go_roundw
                            case rel => exact ⟨i + 1, q + nq, by go_num, by omega, by rw [HWQ.out]; simp⟩
                            case measure => simp [intOf]; omega
                        · have d1 : decide (0 ≤ p) = false := decide_eq_false g1
                          go_wp2
                          go_quiet (fail)
                          go_wp2
                          go_roundw
                          case rel => exact ⟨i + 1, q + nq, by go_num, by omega, by rw [HWQ.out]; simp⟩
                          case measure => simp [intOf]; omega
                      · clear hwq
                        go_wp2
                        go_roundw
                        case rel => exact ⟨k + 1, q, by go_num, by omega, HWQ.out⟩
                        case measure => simp [intOf]; omega
              · go_wp2
                go_loopw [218] (fun t218 wq => ∃ (j q : Nat), t218 = .int .i64 j ∧ j ≤ (backL g D).length ∧ wq = w12.drewN q) (fun t218 _ => (backL g D).length - (intOf t218).toNat)
                case atStart => exact ⟨0, q, rfl, by omega, rfl⟩
                case round =>
                  obtain ⟨j, q, rfl, hj, hwq⟩ := hrel
                  have HWQ := hid hwq
                  by_cases hjt : j < (backL g D).length
                  · obtain ⟨⟨u, v⟩, huv⟩ : ∃ e, (backL g D)[j]? = some e := ⟨_, List.getElem?_eq_getElem hjt⟩
                    obtain ⟨huN, r, l, hr, hl, hvr, hvl⟩ := back_has Gg HDS.out (List.mem_of_getElem? huv)
                    obtain ⟨ra, rc, cr, rowr⟩ := HDA.out u r hr
                    obtain ⟨la, lc, cl, rowl⟩ := HGA.out u l hl
                    have hrl : r.length ≤ 12 := by have h1 := nodup_le (n := g.length) (rising_nodup (HDS.out.2 _ r hr).1) (fun j hj => RchW.lt Gg (((HDS.out.2 _ r hr).2 j).1 hj).2.1); omega
                    have hll : l.length ≤ 12 := by have h1 := nodup_le (n := g.length) (rising_nodup (Gg.rising _ l hl)) (fun j hj => Gg.below _ l hl j hj); omega
                    have H1 := hid (fun n => hasL_any ra rc r v (wr.drewN n) (by omega) (by rw [hwq]; exact (rowr.drewN q).drewN n))
                    have H2 := hid (fun n => hasL_any la lc l v (wr.drewN n) (by omega) (by rw [hwq]; exact (rowl.drewN q).drewN n))
                    rw [decide_eq_true hvr] at H1
                    rw [decide_eq_true hvl] at H2
                    have hpj : (pairsL (backL g D))[j]? = some [(u : Int), (v : Int)] := by simp [pairsL, huv]
                    rcases HBA.out with he | ⟨bb, boff, rfl, hbat⟩
                    · exfalso; rw [he] at hpj; simp at hpj
                    obtain ⟨ta, tc, _, ct, rowt⟩ := hbat j _ hpj
                    rcases rowt with he | ⟨tb, toff, rfl, htat⟩
                    · cases he
                    have ct0 : wr.cell? ⟨tb, toff, none⟩ = some (.int .i64 (u : Int)) := by rw [hwq]; exact htat 0 (by simp)
                    have ct1 : wr.cell? ⟨tb, toff + 1, none⟩ = some (.int .i64 (v : Int)) := by rw [hwq]; exact htat 1 (by simp)
                    have ct2 : wr.cell? ⟨bb, boff + j, none⟩ = some (.slice (some ⟨tb, toff, none⟩) 2 tc) := by rw [hwq]; exact ct
                    have cr2 : wr.cell? ⟨db, doff + u, none⟩ = some (.slice ra r.length rc) := by rw [hwq]; exact cr
                    have cl2 : wr.cell? ⟨gb, goff + u, none⟩ = some (.slice la l.length lc) := by rw [hwq]; exact cl
                    have x13 : wr.cell? ⟨w1.heap.size, 0, none⟩ = some (.slice (some ⟨gb, goff, none⟩) g.length gc) := by rw [hwq]; exact x12
                    clear hbat htat hpj huv hr hl hvr hvl rowr rowl ct hwq cr cl
                    go_wp2
                    go_quiet (first | (go_at_call_of 14 (Value.slice ra r.length rc); refine Calls.quiet_of_same (H1.out _)) | (go_at_call_of 14 (Value.slice la l.length lc); refine Calls.quiet_of_same (H2.out _)))
                    go_wp2
                    go_roundw
                    case rel => exact ⟨j + 1, q + nq, by go_num, by omega, by rw [HWQ.out]; simp⟩
                    case measure => simp [intOf]; omega
                  · clear hwq
                    go_wp2
                    go_ret
                    exact ⟨rfl, by rw [HWQ.out]; exact below_drewN HBW.out _⟩
  · have HN := hid hG
    have e0 : Hid (∀ W : World, Row W none [] ∧ LRow W none []) := fun W => ⟨.inl rfl, .inl rfl⟩
    clear hG
    go_wp2_with fail
    refine (iOrderOf_bad ga gc xs _ (by omega) R2.out HN.out).mono ?_
    rintro e w3 ⟨rfl, hb3⟩
    have x3 := cell_below x2 hb3
    have H3 := hid (And.intro (bstep' B2.out hb3) (R2.out.below hb3))
    clear hb3 x2 B2 R2
    go_wp2_with fail
    refine (sOrderOf_bad ga gc xs _ (by omega) H3.out.2 HN.out).mono ?_
    rintro e w4 ⟨rfl, hb4⟩
    have x4 := cell_below x3 hb4
    have H4 := hid (And.intro (bstep' H3.out.1 hb4) (H3.out.2.below hb4))
    clear hb4 x3 H3
    go_wp2_with fail
    refine (iDominatorsIn_bad ga gc xs _ (by omega) H4.out.2 HN.out).mono ?_
    rintro e w5 ⟨rfl, hb5⟩
    have x5 := cell_below x4 hb5
    have H5 := hid (And.intro (bstep' H4.out.1 hb5) (H4.out.2.below hb5))
    clear hb5 x4 H4
    go_wp2_with fail
    refine (sDominatorsIn_bad ga gc xs _ (by omega) H5.out.2 HN.out).mono ?_
    rintro e w6 ⟨rfl, hb6⟩
    have x6 := cell_below x5 hb6
    have H6 := hid (And.intro (bstep' H5.out.1 hb6) (H5.out.2.below hb6))
    clear hb6 x5 H5
    go_wp2_with fail
    refine (iBackEdgesIn_bad ga gc xs _ (by omega) H6.out.2 HN.out).mono ?_
    rintro e w7 ⟨rfl, hb7⟩
    have x7 := cell_below x6 hb7
    have H7 := hid (And.intro (bstep' H6.out.1 hb7) (H6.out.2.below hb7))
    clear hb7 x6 H6
    go_wp2_with fail
    refine (sBackEdgesIn_bad ga gc xs _ (by omega) H7.out.2 HN.out).mono ?_
    rintro e w8 ⟨rfl, hb8⟩
    have H8 := hid (bstep' H7.out.1 hb8)
    clear hb8 x7 H7
    go_wp2_with fail
    refine (sameI (xs := []) (n := 0) 0 0 rfl (by omega) (e0.out _).1 (e0.out _).1).mono ?_
    rintro e w9 ⟨rfl, hb9⟩
    have H9 := hid (bstep' H8.out hb9)
    clear hb9 H8
    go_wp2_with fail
    refine (sameL (xs := []) (n := 0) 0 0 rfl (by omega) (e0.out _).2 (e0.out _).2).mono ?_
    rintro e w10 ⟨rfl, hb10⟩
    have H10 := hid (bstep' H9.out hb10)
    clear hb10 H9
    go_wp2_with fail
    refine (sameL (xs := []) (n := 0) 0 0 rfl (by omega) (e0.out _).2 (e0.out _).2).mono ?_
    rintro e w11 ⟨rfl, hb11⟩
    have H11 := hid (bstep' H10.out hb11)
    clear hb11 H10
    go_wp2
    go_ret
    exact ⟨rfl, H11.out⟩
end Go.Proofs.Ytiadmmnnbnamjaa
