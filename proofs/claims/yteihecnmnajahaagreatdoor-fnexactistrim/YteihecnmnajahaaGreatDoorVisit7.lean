/- The program's way through a graph. -/
import Derived.Test.YteihecnmnajahaaGreatDoorSet7
namespace Go.Proofs.YteihecnmnajahaaGreatDoor
open Go.RowKit
set_option linter.unusedVariables false
set_option linter.unusedSimpArgs false
set_option maxRecDepth 100000

/-- the tour's own memory: the graph, what was seen, what was left -/
def tourR (a : Option Addr) (N c tb : Nat) (sv lv : Value) (s o : List Nat) : List OR :=
  ⟨134, 3, .slice (some ⟨tb, 0, none⟩) 1 1, 1, [.slice a N c, sv, lv]⟩ :: ⟨3, 1, sv, s.length, ints (nats s)⟩ :: ⟨3, 1, lv, o.length, ints (nats o.reverse)⟩ :: []
theorem nats_rev_len (o : List Nat) : (nats o.reverse).length = o.length := by simp [nats]
set_option maxHeartbeats 4000000 in
theorem iVisit_any {g : List (List Nat)} (G : Gr g) (n : Nat) : ∀ (k : Nat) (s o : List Nat) (a : Option Addr) (c tb B : Nat) (sv lv : Value) (w0 w : World), Seen g.length s → k < g.length → k ∉ s → g.length ≤ s.length + n → o.length ≤ s.length → GRow w0 a g → Below w0.heap.size w0 w → w0.heap.size ≤ B → B ≤ w.heap.size →
    Sep w B (tourR a g.length c tb sv lv s o) →
    Calls Tryz.prog 109 #[.pointer (some ⟨tb, 0, none⟩), .int .i64 k] w fun e w' => e = .returned (.tuple #[]) ∧ ∃ sv' lv', Sep w' B (tourR a g.length c tb sv' lv' (dfs g n k s o).1 (dfs g n k s o).2) ∧ Below B w w' := by
  induction n with
  | zero =>
    intro k s o a c tb B sv lv w0 w hS hk hn hf
    have := hS.room hk hn
    omega
  | succ n ih =>
    intro k s o a c tb B sv lv w0 w hS hk hn hf hol hG hb0 hwB hBw hsep
    obtain ⟨l, hl⟩ : ∃ l, g[k]? = some l := ⟨_, List.getElem?_eq_getElem hk⟩
    have hlb := G.below k l hl
    have hsl := putL_len' s k hn
    have hll : l.length ≤ 12 := by have := Seen.len (N := g.length) ⟨G.rising k l hl, hlb⟩; have := G.most; omega
    have hSk := hS.put hk
    have hslen : s.length ≤ 12 := by have := hS.len; have := G.most; omega
    have HADD := hid (add_any 134 3 tb 1 1 1 [.slice a g.length c, sv, lv] sv s k [⟨3, 1, lv, o.length, ints (nats o.reverse)⟩] B w hsep rfl hS.rising (by omega) hBw)
    have hge : ∀ b, (b = tb ∨ sv.ownBlock = some b) → B ≤ b := by
      rintro b (rfl | e)
      · exact (hsep.size (x := ⟨134, 3, .slice (some ⟨b, 0, none⟩) 1 1, 1, [.slice a g.length c, sv, lv]⟩) (by simp [tourR]) rfl).1
      · exact (hsep.size (x := ⟨3, 1, sv, s.length, ints (nats s)⟩) (by simp [tourR]) e).1
    have HGE := hid hge
    have HST := hid (And.intro hf (And.intro hol (And.intro hG (And.intro hlb (And.intro hsl (And.intro hSk (And.intro hb0 hl)))))))
    have IH := hid ih
    rw [dfs_succ, getD_at hl]
    clear hS hn hf hol hG hlb hsl hSk ih hsep hge hl hb0
    go_enter Tryz.func109, Tryz.ntmps109
    go_wp2_with fail
    refine HADD.out.mono ?_
    rintro e w1 ⟨rfl, sv1, hs1, ho1, hn1⟩
    have hb1 : Below B w w1 := ⟨ho1.os, ho1.tape, ho1.output, ho1.size, fun i hi => ho1.block i (by omega) (fun h => by have := HGE.out i h; omega)⟩
    have b1 : Below w0.heap.size w0 w1 := HST.out.2.2.2.2.2.2.1.trans (hb1.mono hwB)
    obtain ⟨b, off, ta, tc, rfl, gc, hr, hbw⟩ := HST.out.2.2.1.at' b1 HST.out.2.2.2.2.2.2.2
    have hh1 := hs1.1 ⟨134, 3, .slice (some ⟨tb, 0, none⟩) 1 1, 1, [.slice (some ⟨b, off, none⟩) g.length c, sv1, lv]⟩ (by simp)
    have d0 : w1.cell? ⟨tb, 0, none⟩ = some (.slice (some ⟨b, off, none⟩) g.length c) := rowT_at hh1 rfl rfl
    have HS1 : Hid (Sep w1 B (tourR (some ⟨b, off, none⟩) g.length c tb sv1 lv (putL s k) o)) := hs1
    have HB1 := hid hb1
    have HR := hid hr
    clear hs1 ho1 hn1 hb1 hr hh1
    go_wp2
    go_loopw [20] (fun t20 wr => ∃ (q : Nat) (sv lv : Value), t20 = .int .i64 q ∧ q ≤ l.length ∧ Sep wr B (tourR (some ⟨b, off, none⟩) g.length c tb sv lv (dfsL g n (l.take q) (putL s k, o)).1 (dfsL g n (l.take q) (putL s k, o)).2) ∧ Below B w wr) (fun t20 _ => l.length - (intOf t20).toNat)
    case atStart => exact ⟨0, sv1, lv, rfl, by omega, HS1.out, HB1.out⟩
    case round =>
      obtain ⟨q, sv2, lv2, rfl, hq, hsep, hB⟩ := hrel
      have hk7 := dfsL_kept G n (l.take q) (putL s k, o) (fun x hx => HST.out.2.2.2.1 x (List.mem_of_mem_take hx)) HST.out.2.2.2.2.2.1
      have hB0 : Below w0.heap.size w0 wr := HST.out.2.2.2.2.2.2.1.trans (hB.mono hwB)
      have hwr : B ≤ wr.heap.size := Nat.le_trans hBw hB.size
      by_cases hqt : q < l.length
      · have hxn : nats l ≠ [] := by intro e; have := congrArg List.length e; rw [nats_length] at this; simp at this; subst this; simp at hqt
        obtain ⟨tb2, toff, rfl, htb, hat⟩ := HR.out.at hxn
        obtain ⟨v, c1, HV⟩ := hat wr hB0 q (by rw [nats_length]; exact hqt)
        obtain ⟨x, rfl, hx⟩ := nats_get HV.out
        have hxb : x < g.length := HST.out.2.2.2.1 x (List.mem_of_getElem? hx)
        have e1 : l.take (q + 1) = l.take q ++ [x] := by rw [List.take_add_one, hx]; rfl
        have e2 := dfsL_snoc g n (l.take q) x (putL s k, o)
        rw [← e1] at e2
        obtain ⟨P, hP⟩ : ∃ P, dfsL g n (l.take q) (putL s k, o) = P := ⟨_, rfl⟩
        rw [hP] at hsep hk7 e2
        have hos : wr.ownsRow B 3 1 sv2 P.1.length (ints (nats P.1)) := hsep.1 ⟨3, 1, sv2, P.1.length, ints (nats P.1)⟩ (by simp [tourR])
        have hoh := hsep.1 ⟨134, 3, .slice (some ⟨tb, 0, none⟩) 1 1, 1, [.slice (some ⟨b, off, none⟩) g.length c, sv2, lv2]⟩ (by simp [tourR])
        obtain ⟨sa, sc, rfl⟩ := slice_of_owned hos
        have d1 : wr.cell? ⟨tb, 1, none⟩ = some (.slice sa P.1.length sc) := rowT_at hoh rfl rfl
        have hPl : P.1.length ≤ 12 := by have := hk7.1.len; have := G.most; omega
        have HH := hid (has_any sa sc P.1 x wr (by omega) (own_row (c := sc) (B := B) (by rw [nats_length]; exact hos)) hk7.1.rising)
        by_cases hxm : x ∈ P.1
        · rw [if_pos hxm] at e2
          have HE := hid (And.intro e2 hsep)
          have hm2 : decide (x ∈ P.1) = true := decide_eq_true hxm
          rw [hm2] at HH
          clear e2 hsep hk7 hat hP e1 hx hxm hB0 hos hoh hm2
          go_wp2_with fail
          refine HH.out.mono ?_
          rintro e w2 ⟨rfl, hb2⟩
          have HS2 := hid (And.intro (HE.out.2.below hb2) (hB.trans (hb2.mono hwr)))
          clear hb2
          go_wp2
          go_roundw
          case rel =>
            refine ⟨q + 1, .slice sa P.1.length sc, lv2, by go_num, by omega, ?_, HS2.out.2⟩
            rw [HE.out.1]; exact HS2.out.1
          case measure => simp [intOf]; omega
        · rw [if_neg hxm] at e2
          have HE := hid (And.intro e2 hsep)
          have hm2 : decide (x ∈ P.1) = false := decide_eq_false hxm
          rw [hm2] at HH
          have HC := hid (fun W (hW : Below w0.heap.size w0 W) (hBW : B ≤ W.heap.size) hs => IH.out x P.1 P.2 (some ⟨b, off, none⟩) c tb B (.slice sa P.1.length sc) lv2 w0 W hk7.1 hxb hxm (by have := hk7.2.2.1; have := HST.out.1; have := HST.out.2.2.2.2.1; simp only [] at *; omega) (by have := hk7.2.2.2; have := HST.out.2.1; have := HST.out.2.2.2.2.1; simp only [] at *; omega) HST.out.2.2.1 hW hwB hBW hs)
          clear e2 hsep hk7 hat hP e1 hx hxm hos hoh hm2
          go_wp2_with fail
          refine HH.out.mono ?_
          rintro e w2 ⟨rfl, hb2⟩
          have HS2 := hid (And.intro (HE.out.2.below hb2) (And.intro (hB.trans (hb2.mono hwr)) (And.intro (bstep' hB0 hb2) hb2.size)))
          clear hb2
          go_wp2_with fail
          refine (HC.out _ HS2.out.2.2.1 (by have := HS2.out.2.2.2; omega) HS2.out.1).mono ?_
          rintro e w3 ⟨rfl, sv3, lv3, hs3, hb3⟩
          have H3 := hid (And.intro hs3 (HS2.out.2.1.trans hb3))
          clear hs3 hb3
          go_wp2
          go_roundw
          case rel =>
            refine ⟨q + 1, sv3, lv3, by go_num, by omega, ?_, H3.out.2⟩
            rw [HE.out.1]; exact H3.out.1
          case measure => simp [intOf]; omega
      · obtain rfl : q = l.length := by omega
        rw [List.take_of_length_le (Nat.le_refl _)] at hsep hk7
        obtain ⟨P, hP⟩ : ∃ P, dfsL g n l (putL s k, o) = P := ⟨_, rfl⟩
        rw [hP] at hsep hk7
        have hPl : P.2.length ≤ 1000 := by
          have h1 := hk7.1.len
          have h2 := hk7.2.2.2
          have h3 := HST.out.2.1
          have h4 := HST.out.2.2.2.2.1
          have h5 := G.most
          simp only [] at *
          omega
        have hoh := hsep.1 ⟨134, 3, .slice (some ⟨tb, 0, none⟩) 1 1, 1, [.slice (some ⟨b, off, none⟩) g.length c, sv2, lv2]⟩ (by simp [tourR])
        have hol : wr.ownsRow B 3 1 lv2 P.2.length (ints (nats P.2.reverse)) := hsep.1 ⟨3, 1, lv2, P.2.length, ints (nats P.2.reverse)⟩ (by simp [tourR])
        obtain ⟨la, lc, rfl⟩ := slice_of_owned hol
        have d2 : wr.cell? ⟨tb, 2, none⟩ = some (.slice la P.2.length lc) := rowT_at hoh rfl rfl
        have f2 : wr.frozen? ⟨tb, 2, none⟩ = false := rowT_frz hoh rfl 2
        have htb := (hsep.size (x := ⟨134, 3, .slice (some ⟨tb, 0, none⟩) 1 1, 1, [.slice (some ⟨b, off, none⟩) g.length c, sv2, .slice la P.2.length lc]⟩) (by simp [tourR]) rfl).2
        have HS : Hid (Sep (wr.alloc (.cells #[.int .i64 k] 3)) B ([⟨134, 3, .slice (some ⟨tb, 0, none⟩) 1 1, 1, [.slice (some ⟨b, off, none⟩) g.length c, sv2, .slice la P.2.length lc]⟩, ⟨3, 1, sv2, P.1.length, ints (nats P.1)⟩] ++ ⟨3, 1, .slice la P.2.length lc, P.2.length, ints (nats P.2.reverse)⟩ :: [])) := hsep.below (below1 _ _)
        have HN := hid (News.one wr (.int .i64 (k : Int)) 3 _ rfl rfl)
        have HLEN : Hid (B ≤ (wr.alloc (.cells #[.int .i64 k] 3)).heap.size) := by show B ≤ _; simp; omega
        have HP := hid hP
        clear hsep hk7 hB0 hP hoh hol
        go_wp2_with (at_builtin; refine wpList_append_sep eltInt rfl _ _ rfl B _ HS.out rfl HN.out rfl (by omega) HLEN.out ?_)
        intro va3 vc3 w3 hs3 hb3 hg3
        have hh3 := hs3.1 ⟨134, 3, .slice (some ⟨tb, 0, none⟩) 1 1, 1, [.slice (some ⟨b, off, none⟩) g.length c, sv2, .slice la P.2.length lc]⟩ (by simp)
        have d3 : w3.cell? ⟨tb, 2, none⟩ = some (.slice la P.2.length lc) := rowT_at hh3 rfl rfl
        have f3 : w3.frozen? ⟨tb, 2, none⟩ = false := rowT_frz hh3 rfl 2
        have HB3 : Hid (Below B w w3) := (hB.trans ((below1 wr (.cells #[.int .i64 k] 3)).mono hwr)).trans hb3
        have HS3 := hid hs3
        clear hs3 hb3 hg3 hh3 d2 f2
        go_wp2
        go_end0
        rw [HP.out]
        refine ⟨rfl, sv2, .slice va3 (P.2.length + 1) vc3, ?_, HB3.out.setCell (HGE.out tb (.inl rfl)) _⟩
        have h4 := Sep.store [] HS3.out 2 (.slice va3 (P.2.length + 1) vc3)
        have e5 : ints (nats P.2.reverse) ++ [.int .i64 (k : Int)] = ints (nats (k :: P.2).reverse) := by simp [ints, nats]
        rw [e5] at h4
        exact h4
theorem ints_map (zs : List Int) : zs.map (Value.int .i64) = ints zs := rfl
/-- a row of numbers is turned round -/
theorem reverse_any (B : Nat) (v : Value) (zs : List Int) (w : World) (hl : zs.length ≤ 1000) (h : w.ownsRow B 3 1 v zs.length (ints zs)) :
    Calls Tryz.prog 110 #[v] w fun e w' => e = .returned (.tuple #[]) ∧ w'.ownsRow B 3 1 v zs.length (ints zs.reverse) ∧ w.grownBy w' v.ownBlock := by
  rcases h.2 with ⟨rfl, h0⟩ | ⟨g, cap, cur, rfl, hBg, hg, hn, hm, hsz, htk⟩
  · have : zs = [] := List.eq_nil_of_length_eq_zero h0
    subst this
    refine (Tryz.slices_Reverse_int_empty none 0 w).mono ?_
    rintro e w' ⟨rfl, rfl⟩
    exact ⟨rfl, by simpa using h, World.grownBy.refl _ _⟩
  · refine (Tryz.slices_Reverse_int_cells g 0 zs.length cap zs w (Nat.le_refl _) (by omega) (fun j hj => ?_) (fun j hj => by rw [Nat.zero_add]; exact h.frozenAt j)).mono ?_
    · rw [Nat.zero_add]
      exact rowT_at h rfl (by simp [ints, hj, List.getD])
    · rintro e w' ⟨rfl, q, rfl⟩
      rw [List.take_of_length_le (Nat.le_refl _), ints_map]
      obtain ⟨h1, h2⟩ := own_setCells (ints zs.reverse) (w.drewN q) 0 (ints zs) h (by simp [ints])
      refine ⟨rfl, ?_, (show w.grownBy (w.drewN q) (some g) from grownBy_of_below (below_drewN (Below.refl _ _) q) _).trans h2⟩
      have e1 : (ints zs).drop (0 + (ints zs.reverse).length) = [] := List.drop_of_length_le (by simp [ints])
      rw [e1, List.take_zero, List.nil_append, List.append_nil] at h1
      exact h1
theorem dfs_len {g : List (List Nat)} (G : Gr g) : (order7 g).length ≤ 12 ∧ (dfs g g.length 0 [] []).1.length ≤ 12 := by
  have h := dfs_kept G g.length 0 [] [] ⟨List.Pairwise.nil, by simp⟩ (by have := G.pos; omega) (by simp)
  have h1 := h.1.len
  have h2 := h.2.2.2
  have h3 := G.most
  simp only [List.length_nil] at h2
  unfold order7
  omega
set_option maxHeartbeats 2000000 in
/-- the program's order of the nodes that are come to -/
theorem iOrder_any {g : List (List Nat)} (G : Gr g) (a : Option Addr) (c : Nat) (w : World) (h : GRow w a g) :
    Calls Tryz.prog 79 #[.agg #[.slice a g.length c]] w fun e w' => ∃ va vc, e = .returned (.slice va (order7 g).length vc) ∧ w'.ownsRow w.heap.size 3 1 (.slice va (order7 g).length vc) (order7 g).length (ints (nats (order7 g))) ∧ Below w.heap.size w w' := by
  have hgp := G.pos
  have HL := hid (dfs_len G)
  have HV : Hid (∀ W, Below w.heap.size w W → ∀ tb, Sep W w.heap.size (tourR a g.length c tb (.slice none 0 0) (.slice none 0 0) [] []) → Calls Tryz.prog 109 #[.pointer (some ⟨tb, 0, none⟩), .int .i64 0] W fun e w' => e = .returned (.tuple #[]) ∧ ∃ sv' lv', Sep w' w.heap.size (tourR a g.length c tb sv' lv' (dfs g g.length 0 [] []).1 (order7 g)) ∧ Below w.heap.size W w') := fun W hW tb hs =>
    iVisit_any G g.length 0 [] [] a c tb w.heap.size _ _ w W ⟨List.Pairwise.nil, by simp⟩ (by omega) (by simp) (by simp) (by simp) h hW (Nat.le_refl _) hW.size hs
  clear h
  go_enter Tryz.func79, Tryz.ntmps79
  go_wp2_with fail
  have hb2 := below2 w (.cells #[.slice a g.length c] 43) (.cells #[.slice a g.length c, .slice none 0 0, .slice none 0 0] 134)
  have hs0 : Sep ((w.alloc (.cells #[.slice a g.length c] 43)).alloc (.cells #[.slice a g.length c, .slice none 0 0, .slice none 0 0] 134)) w.heap.size (tourR a g.length c (w.heap.size + 1) (.slice none 0 0) (.slice none 0 0) [] []) := by
    refine ⟨fun x hx => ?_, ?_⟩
    · simp only [tourR, List.mem_cons, List.not_mem_nil, or_false] at hx
      rcases hx with rfl | rfl | rfl
      · have h1 := heap_alloc_new (w.alloc (.cells #[.slice a g.length c] 43)) (.cells #[.slice a g.length c, .slice none 0 0, .slice none 0 0] 134)
        have h2 : (w.alloc (.cells #[.slice a g.length c] 43)).heap.size = w.heap.size + 1 := by simp
        rw [h2] at h1
        exact cell_own (cs := #[.slice a g.length c, .slice none 0 0, .slice none 0 0]) h1 rfl (by omega)
      · exact World.ownsRow_nil _ _ _ _
      · exact World.ownsRow_nil _ _ _ _
    · simp [tourR, apt, Value.ownBlock]
  refine (HV.out _ hb2 (w.heap.size + 1) hs0).mono ?_
  rintro e w1 ⟨rfl, sv, lv, hs1, hb1⟩
  have B1 : Below w.heap.size w w1 := hb2.trans hb1
  have hoh := hs1.1 ⟨134, 3, .slice (some ⟨w.heap.size + 1, 0, none⟩) 1 1, 1, [.slice a g.length c, sv, lv]⟩ (by simp [tourR])
  have hol : w1.ownsRow w.heap.size 3 1 lv (order7 g).length (ints (nats (order7 g).reverse)) := hs1.1 ⟨3, 1, lv, (order7 g).length, ints (nats (order7 g).reverse)⟩ (by simp [tourR])
  obtain ⟨la, lc, rfl⟩ := slice_of_owned hol
  have d1 : w1.cell? ⟨w.heap.size + 1, 2, none⟩ = some (.slice la (order7 g).length lc) := rowT_at hoh rfl rfl
  have HR : Hid (Calls Tryz.prog 110 #[.slice la (order7 g).length lc] w1 fun e w' => e = .returned (.tuple #[]) ∧ w'.ownsRow w.heap.size 3 1 (.slice la (order7 g).length lc) (order7 g).length (ints (nats (order7 g))) ∧ w1.grownBy w' (Value.slice la (order7 g).length lc).ownBlock) := by
    have := reverse_any w.heap.size (.slice la (order7 g).length lc) (nats (order7 g).reverse) w1 (by rw [nats_rev_len]; have := HL.out.1; omega) (by rw [nats_rev_len]; exact hol)
    rw [nats_rev_len, show (nats (order7 g).reverse).reverse = nats (order7 g) by simp [nats]] at this
    exact this
  have HA : Hid (apt ⟨134, 3, .slice (some ⟨w.heap.size + 1, 0, none⟩) 1 1, 1, [.slice a g.length c, sv, .slice la (order7 g).length lc]⟩ ⟨3, 1, .slice la (order7 g).length lc, (order7 g).length, ints (nats (order7 g).reverse)⟩) := by
    have := hs1.2
    simp only [tourR, List.pairwise_cons] at this
    exact this.1 _ (by simp)
  have HH := hid hoh
  have HB := hid B1
  clear hs0 hb2 hs1 hb1 hoh hol B1
  go_wp2_with fail
  refine HR.out.mono ?_
  rintro e w2 ⟨rfl, ho2, hg2⟩
  have d2 : w2.cell? ⟨w.heap.size + 1, 2, none⟩ = some (.slice la (order7 g).length lc) := by
    have hbl : w2.heap[w.heap.size + 1]? = w1.heap[w.heap.size + 1]? := by
      refine hg2.block _ (HH.out.lt _ rfl).2 ?_
      intro e
      rcases HA.out with h | h
      · cases h
      · exact h e
    rw [World.cell?_of_block (a := ⟨w.heap.size + 1, 2, none⟩) hbl]
    exact d1
  have H2 := hid (And.intro ho2 (HB.out.grown hg2 HB.out.size (fun j hj => (ho2.lt j hj).1)))
  clear ho2 hg2
  go_wp2
  go_ret
  exact ⟨la, lc, rfl, H2.out.1, H2.out.2⟩
end Go.Proofs.YteihecnmnajahaaGreatDoor
