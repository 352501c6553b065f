/- The order of a graph's nodes: the model's and the program's OrderOf. -/
import Derived.Test.YtiadmmnnbnamjaaVisit7
import Derived.Test.YtiadmmnnbnamjaaPost7
namespace Go.Proofs.Ytiadmmnnbnamjaa
open Go.RowKit
set_option linter.unusedVariables false
set_option linter.unusedSimpArgs false
set_option maxRecDepth 100000

set_option maxHeartbeats 4000000 in
/-- the model's going on from a node -/
theorem sPost_any {g : List (List Nat)} (G : Gr g) (n : Nat) : ∀ (k : Nat) (s o : List Nat) (a : Option Addr) (c sb sc B : Nat) (ov : Value) (w0 w : World), Seen g.length s → k < g.length → k ∉ s → g.length ≤ s.length + n → o.length ≤ s.length → GRow w0 a g → Below w0.heap.size w0 w → w0.heap.size ≤ sb →
    w.ownsRow B 4 1 (.slice (some ⟨sb, 0, none⟩) g.length sc) g.length (bits g.length s) → w.ownsRow (sb + 1) 3 1 ov o.length (ints (nats o)) →
    Calls Try.prog 35 #[.agg #[.slice a g.length c], .int .i64 k, .slice (some ⟨sb, 0, none⟩) g.length sc, ov] w fun e w' => ∃ va vc, e = .returned (.slice va (dfs g n k s o).2.length vc) ∧ w'.ownsRow (sb + 1) 3 1 (.slice va (dfs g n k s o).2.length vc) (dfs g n k s o).2.length (ints (nats (dfs g n k s o).2)) ∧ w'.ownsRow B 4 1 (.slice (some ⟨sb, 0, none⟩) g.length sc) g.length (bits g.length (dfs g n k s o).1) ∧ w.grownBy w' (some sb) := by
  induction n with
  | zero =>
    intro k s o a c sb sc B ov w0 w hS hk hn hf
    have := hS.room hk hn
    omega
  | succ n ih =>
    intro k s o a c sb sc B ov w0 w hS hk hn hf hol hG hb0 hsb hsr hor
    obtain ⟨l, hl⟩ : ∃ l, g[k]? = some l := ⟨_, List.getElem?_eq_getElem hk⟩
    have hlb := G.below k l hl
    have hsl := putL_len' s k hn
    have hll : l.length ≤ 12 := by have := Seen.len (N := g.length) ⟨G.rising k l hl, hlb⟩; have := G.most; omega
    have hSk := hS.put hk
    have hlt : sb < w.heap.size := (hsr.lt sb rfl).2
    rw [dfs_succ, getD_at hl]
    obtain ⟨ova, ovc, rfl⟩ := slice_of_owned hor
    have IH := hid ih
    have c0 : w.cell? ⟨sb, k, none⟩ = some (.bool (decide (k ∈ s))) := rowT_at hsr rfl (bits_at hk)
    have f0 : w.frozen? ⟨sb, k, none⟩ = false := rowT_frz hsr rfl k
    obtain ⟨b, off, ta, tc, rfl, gc, hr, hbw⟩ := hG.at' hb0 hl
    have hne : ¬ sb = b := by omega
    have hne2 : ¬ b = w.heap.size := by have := hb0.size; omega
    have hne3 : ¬ sb = w.heap.size := by omega
    obtain ⟨W1, hW1⟩ : ∃ W1, W1 = (w.setCell ⟨sb, k, none⟩ (.bool true)).alloc (.cells #[.slice (some ⟨b, off, none⟩) g.length c] 25) := ⟨_, rfl⟩
    have g1 : w.grownBy W1 (some sb) := by rw [hW1]; exact (World.ownsRow.stored hsr k (.bool true)).2.trans (grownBy_of_below (below1 _ _) _)
    have s1 : W1.ownsRow B 4 1 (.slice (some ⟨sb, 0, none⟩) g.length sc) g.length (bits g.length (putL s k)) := by
      rw [hW1, ← bits_put hk]; exact owns_below (World.ownsRow.stored hsr k (.bool true)).1 (below1 _ _)
    have o1 : W1.ownsRow (sb + 1) 3 1 (.slice ova o.length ovc) o.length (ints (nats o)) := by
      rw [hW1]; exact owns_below (ownsRow_setCell_below hor (by show sb < sb + 1; omega) _) (below1 _ _)
    have b1 : Below w0.heap.size w0 W1 := hb0.grown g1 hb0.size (fun j hj => by cases hj; exact hsb)
    have gc1 : ((w.setCell ⟨sb, k, none⟩ (.bool true)).alloc (.cells #[.slice (some ⟨b, off, none⟩) g.length c] 25)).cell? ⟨b, off + k, none⟩ = some (.slice ta l.length tc) := cell_below (set_far gc hne) (below1 _ _)
    have x1 : W1.cell? ⟨w.heap.size, 0, none⟩ = some (.slice (some ⟨b, off, none⟩) g.length c) := by rw [hW1]; simp [go_sem]
    have z1 : W1.heap.size = w.heap.size + 1 := by rw [hW1]; simp [World.setCell]
    have HW := hid (And.intro hW1 (And.intro g1 (And.intro s1 (And.intro o1 (And.intro b1 (And.intro x1 z1))))))
    have HST := hid (And.intro hf (And.intro hol (And.intro hG (And.intro hlb (And.intro hsl hSk)))))
    have HR := hid hr
    have HL := hid hl
    clear hS hn hf hol hG hb0 hsr hor hlb hsl hSk hr ih hl g1 s1 o1 b1 x1 hW1 z1
    go_enter Try.func35, Try.ntmps35
    go_wp2
    go_loopw [3, 20] (fun t3 t20 wr => ∃ (q : Nat) (va : Option Addr) (vc : Nat), t20 = .int .i64 q ∧ q ≤ l.length ∧ t3 = .slice va (dfsL g n (l.take q) (putL s k, o)).2.length vc ∧ wr.ownsRow (sb + 1) 3 1 (.slice va (dfsL g n (l.take q) (putL s k, o)).2.length vc) (dfsL g n (l.take q) (putL s k, o)).2.length (ints (nats (dfsL g n (l.take q) (putL s k, o)).2)) ∧ wr.ownsRow B 4 1 (.slice (some ⟨sb, 0, none⟩) g.length sc) g.length (bits g.length (dfsL g n (l.take q) (putL s k, o)).1) ∧ W1.grownBy wr (some sb)) (fun _ t20 _ => l.length - (intOf t20).toNat)
    case atStart =>
      rw [← HW.out.1]
      exact ⟨0, ova, ovc, rfl, by omega, rfl, HW.out.2.2.2.1, HW.out.2.2.1, grownBy_of_below (Below.refl _ _) _⟩
    case round =>
      obtain ⟨q, va, vc, rfl, hq, rfl, ho, hs, hgr⟩ := hrel
      have hB : Below w0.heap.size w0 wr := HW.out.2.2.2.2.1.grown hgr HW.out.2.2.2.2.1.size (fun j hj => by cases hj; exact hsb)
      have hk7 := dfsL_kept G n (l.take q) (putL s k, o) (fun x hx => HST.out.2.2.2.1 x (List.mem_of_mem_take hx)) HST.out.2.2.2.2.2
      have hsz := hgr.size
      have hz1 := HW.out.2.2.2.2.2.2
      have x2 : wr.cell? ⟨w.heap.size, 0, none⟩ = some (.slice (some ⟨b, off, none⟩) g.length c) := by
        rw [World.cell?_of_block (hgr.block _ (by show w.heap.size < W1.heap.size; omega) (by show some w.heap.size ≠ some sb; intro e; cases e; omega))]
        exact HW.out.2.2.2.2.2.1
      by_cases hqt : q < l.length
      · have hxn : nats l ≠ [] := by intro e; have := congrArg List.length e; rw [nats_length] at this; simp at this; subst this; simp at hqt
        obtain ⟨tb, toff, rfl, htb, hat⟩ := HR.out.at hxn
        obtain ⟨v, c1, HV⟩ := hat wr hB q (by rw [nats_length]; exact hqt)
        obtain ⟨x, rfl, hx⟩ := nats_get HV.out
        have hxb : x < g.length := HST.out.2.2.2.1 x (List.mem_of_getElem? hx)
        have e1 : l.take (q + 1) = l.take q ++ [x] := by rw [List.take_add_one, hx]; rfl
        have e2 := dfsL_snoc g n (l.take q) x (putL s k, o)
        rw [← e1] at e2
        obtain ⟨P, hP⟩ : ∃ P, dfsL g n (l.take q) (putL s k, o) = P := ⟨_, rfl⟩
        rw [hP] at ho hs hk7 e2 ⊢
        have sc0 : wr.cell? ⟨sb, x, none⟩ = some (.bool (decide (x ∈ P.1))) := rowT_at hs rfl (bits_at hxb)
        by_cases hxm : x ∈ P.1
        · rw [if_pos hxm] at e2
          have HE := hid (And.intro e2 (And.intro ho (And.intro hs hgr)))
          have sc1 : wr.cell? ⟨sb, x, none⟩ = some (.bool true) := by rw [sc0]; simp [hxm]
          clear e2 ho hs hgr hk7 hat hP e1 hx sc0 hxm hB
          go_wp2
          go_roundw
          case rel =>
            refine ⟨q + 1, va, vc, by go_num, by omega, ?_, ?_, ?_, HE.out.2.2.2⟩
            · rw [HE.out.1]
            · rw [HE.out.1]; exact HE.out.2.1
            · rw [HE.out.1]; exact HE.out.2.2.1
          case measure => simp [intOf]; omega
        · rw [if_neg hxm] at e2
          have HE := hid e2
          have sc1 : wr.cell? ⟨sb, x, none⟩ = some (.bool false) := by rw [sc0]; simp [hxm]
          have HC := hid (IH.out x P.1 P.2 (some ⟨b, off, none⟩) c sb sc B (.slice va P.2.length vc) w0 wr hk7.1 hxb hxm (by have := hk7.2.2.1; have := HST.out.1; have := HST.out.2.2.2.2.1; simp only [] at *; omega) (by have := hk7.2.2.2; have := HST.out.2.1; have := HST.out.2.2.2.2.1; simp only [] at *; omega) HST.out.2.2.1 hB hsb hs ho)
          have HGR := hid hgr
          clear e2 ho hs hgr hk7 hat hP e1 hx sc0 hxm hB
          go_wp2_with fail
          refine HC.out.mono ?_
          rintro e w2 ⟨va2, vc2, rfl, ho2, hs2, hg2⟩
          have H2 := hid (And.intro ho2 (And.intro hs2 (HGR.out.trans hg2)))
          clear ho2 hs2 hg2
          go_wp2
          go_roundw
          case rel =>
            refine ⟨q + 1, va2, vc2, by go_num, by omega, ?_, ?_, ?_, H2.out.2.2⟩
            · rw [HE.out]
            · rw [HE.out]; exact H2.out.1
            · rw [HE.out]; exact H2.out.2.1
          case measure => simp [intOf]; omega
      · obtain rfl : q = l.length := by omega
        rw [List.take_of_length_le (Nat.le_refl _)] at ho hs hk7 ⊢
        obtain ⟨P, hP⟩ : ∃ P, dfsL g n l (putL s k, o) = P := ⟨_, rfl⟩
        rw [hP] at ho hs hk7 ⊢
        have hPl : P.2.length ≤ 1000 := by
          have h1 := hk7.1.len
          have h2 := hk7.2.2.2
          have h3 := HST.out.2.1
          have h4 := HST.out.2.2.2.2.1
          have h5 := G.most
          simp only [] at *
          omega
        have HS : Hid (Sep (wr.alloc (.cells #[.int .i64 k] 3)) (sb + 1) ([] ++ ⟨3, 1, .slice (some ⟨wr.heap.size, 0, none⟩) 1 1, 1, [.int .i64 k]⟩ :: [])) := sep_one (owns_mono (own_new1 wr k _ rfl) (by omega))
        have HN : Hid (News (wr.alloc (.cells #[.int .i64 k] 3)) va P.2.length 1 (ints (nats P.2))) := by
          have h1 : Row wr va (nats P.2) := own_row (c := vc) (B := sb + 1) (by rw [nats_length]; exact ho)
          have h2 := News.ints (h1.below (below1 wr (.cells #[.int .i64 k] 3)))
          rwa [nats_length] at h2
        have HF := hid (And.intro ho (And.intro hs hgr))
        have hlen : sb + 1 ≤ (wr.alloc (.cells #[.int .i64 k] 3)).heap.size := by simp; omega
        have HLEN := hid hlen
        have HP := hid hP
        clear ho hs hgr hk7 hB hP hlen
        go_wp2_with (at_builtin; refine wpList_append_sep eltInt rfl _ _ rfl (sb + 1) [] HS.out rfl HN.out rfl (by omega) HLEN.out ?_)
        intro va3 vc3 w3 hs3 hb3 hg3
        have HB3 : Hid (Below wr.heap.size wr w3) := (below1 wr _).grown hg3 (by simp) (fun j hj => by cases hj; exact Nat.le_refl _)
        have HS3 := hid hs3
        clear hs3 hb3 hg3
        go_wp2
        go_ret
        rw [HP.out]
        refine ⟨va3, vc3, congrArg (fun n => Ending.returned (.slice va3 n vc3)) (Nat.add_comm _ _), ?_, owns_below HF.out.2.1 HB3.out, (HW.out.2.1.trans HF.out.2.2).trans (grownBy_of_below HB3.out _)⟩
        have := one_sep HS3.out
        rw [Nat.add_comm 1] at this
        exact this
set_option maxHeartbeats 4000000 in
/-- the model's order of the nodes that are come to -/
theorem sOrder_any {g : List (List Nat)} (G : Gr g) (a : Option Addr) (c : Nat) (w : World) (h : GRow w a g) :
    Calls Try.prog 19 #[.agg #[.slice a g.length c]] w fun e w' => ∃ va vc, e = .returned (.slice va (order7 g).length vc) ∧ w'.ownsRow w.heap.size 3 1 (.slice va (order7 g).length vc) (order7 g).length (ints (nats (order7 g))) ∧ Below w.heap.size w w' := by
  have hgm := G.most
  have hgp := G.pos
  have HC : Hid (∀ W, Below w.heap.size w W → ∀ sb, w.heap.size ≤ sb → W.ownsRow w.heap.size 4 1 (.slice (some ⟨sb, 0, none⟩) g.length g.length) g.length (bits g.length []) → Calls Try.prog 35 #[.agg #[.slice a g.length c], .int .i64 0, .slice (some ⟨sb, 0, none⟩) g.length g.length, .slice none 0 0] W fun e w' => ∃ va vc, e = .returned (.slice va (order7 g).length vc) ∧ w'.ownsRow w.heap.size 3 1 (.slice va (order7 g).length vc) (order7 g).length (ints (nats (order7 g))) ∧ Below w.heap.size w w') := fun W hW sb hsb hs => by
    refine (sPost_any G g.length 0 [] [] a c sb g.length w.heap.size (.slice none 0 0) w W ⟨List.Pairwise.nil, by simp⟩ (by omega) (by simp) (by simp) (by simp) h hW hsb hs (World.ownsRow_nil _ _ _ _)).mono ?_
    rintro e w' ⟨va, vc, rfl, h1, h2, h3⟩
    exact ⟨va, vc, rfl, owns_mono h1 (by omega), hW.grown h3 hW.size (fun j hj => by cases hj; exact hsb)⟩
  have hmk := fun W => run_make_row' (P := Try.prog) 65 4 (.bool false) 1 Try.underlying65 info4 rfl .i64 .i64 g.length (by omega) (by omega) W
  have HO : Hid (((w.alloc (.cells #[.slice a g.length c] 25)).alloc (.cells (madeCells #[.bool false] g.length) 4)).drew.ownsRow w.heap.size 4 1 (.slice (some ⟨w.heap.size + 1, 0, none⟩) g.length g.length) g.length (bits g.length [])) := owns_mono (own_made (w.alloc (.cells #[.slice a g.length c] 25)) g.length (w.heap.size + 1) (by omega) (by omega) (by simp)) (by omega)
  have HB : Hid (Below w.heap.size w ((w.alloc (.cells #[.slice a g.length c] 25)).alloc (.cells (madeCells #[.bool false] g.length) 4)).drew) := (below2 w _ _).drew
  clear h
  go_enter Try.func19, Try.ntmps19
  go_wp2
  go_region_with (go_at_call 35; refine (HC.out _ HB.out (w.heap.size + 1) (by omega) HO.out).mono ?_; rintro e w2 ⟨va, vc, rfl, ho2, hb2⟩)
  all_goals
    go_wp2
    go_ret
    exact ⟨va, vc, rfl, ho2, hb2⟩
set_option maxHeartbeats 1000000 in
/-- the model's OrderOf -/
theorem sOrderOf_bad (a : Option Addr) (c : Nat) (xs : List (List Int)) (w : World) (hl : xs.length ≤ 9223372036854775807) (h : LRow w a xs) (hG : ¬ GoodG xs) :
    Calls Try.prog 6 #[.agg #[.slice a xs.length c]] w fun e w' => e = .returned (.tuple #[.slice none 0 0, .bool false]) ∧ Below w.heap.size w w' := by
  have HC := hid (fun W hb => sGood_any a c xs false W hl (h.below hb) (by simp [hG]))
  clear h
  go_enter Try.func6, Try.ntmps6
  go_wp2_with fail
  refine (HC.out _ (below1 w _)).mono ?_
  rintro e w1 ⟨rfl, hb1⟩
  have HB := hid (bstep' (below1 w _) hb1)
  clear hb1
  go_wp2
  go_ret2
  exact ⟨rfl, HB.out⟩
set_option maxHeartbeats 1000000 in
theorem sOrderOf_good {g : List (List Nat)} (G : Gr g) (a : Option Addr) (c : Nat) (w : World) (h : GRow w a g) (hG : GoodG (g.map nats)) :
    Calls Try.prog 6 #[.agg #[.slice a g.length c]] w fun e w' => ∃ va vc, e = .returned (.tuple #[.slice va (order7 g).length vc, .bool true]) ∧ w'.ownsRow w.heap.size 3 1 (.slice va (order7 g).length vc) (order7 g).length (ints (nats (order7 g))) ∧ Below w.heap.size w w' := by
  have hgm := G.most
  have HC : Hid (∀ W, Below w.heap.size w W → Calls Try.prog 18 #[.agg #[.slice a g.length c]] W fun e w' => e = .returned (.bool true) ∧ Below W.heap.size W w') := fun W hb => by
    have := sGood_any a c (g.map nats) true W (by simp; omega) (LRow.below h hb) (by simp [hG])
    rwa [List.length_map] at this
  have HO := hid (fun W (hb : Below w.heap.size w W) => sOrder_any G a c W (LRow.below h hb))
  clear h
  go_enter Try.func6, Try.ntmps6
  go_wp2_with fail
  refine (HC.out _ (below1 w _)).mono ?_
  rintro e w1 ⟨rfl, hb1⟩
  have d1 : w1.cell? ⟨w.heap.size, 0, none⟩ = some (.slice a g.length c) := cell_below (by simp [go_sem]) hb1
  have B1 := bstep' (below1 w _) hb1
  clear hb1
  go_wp2_with fail
  refine (HO.out _ B1).mono ?_
  rintro e w2 ⟨va, vc, rfl, ho2, hb2⟩
  have H2 := hid (And.intro (owns_mono ho2 B1.size) (bstep' B1 hb2))
  clear ho2 hb2
  go_wp2
  go_ret2
  exact ⟨va, vc, rfl, H2.out.1, H2.out.2⟩
set_option maxHeartbeats 1000000 in
/-- the program's OrderOf -/
theorem iOrderOf_bad (a : Option Addr) (c : Nat) (xs : List (List Int)) (w : World) (hl : xs.length ≤ 9223372036854775807) (h : LRow w a xs) (hG : ¬ GoodG xs) :
    Calls Try.prog 5 #[.agg #[.slice a xs.length c]] w fun e w' => e = .returned (.tuple #[.slice none 0 0, .bool false]) ∧ Below w.heap.size w w' := by
  have HC := hid (fun W hb => iGood_any a c xs false W hl (h.below hb) (by simp [hG]))
  clear h
  go_enter Try.func5, Try.ntmps5
  go_wp2_with fail
  refine (HC.out _ (below1 w _)).mono ?_
  rintro e w1 ⟨rfl, hb1⟩
  have HB := hid (bstep' (below1 w _) hb1)
  clear hb1
  go_wp2
  go_ret2
  exact ⟨rfl, HB.out⟩
set_option maxHeartbeats 1000000 in
theorem iOrderOf_good {g : List (List Nat)} (G : Gr g) (a : Option Addr) (c : Nat) (w : World) (h : GRow w a g) (hG : GoodG (g.map nats)) :
    Calls Try.prog 5 #[.agg #[.slice a g.length c]] w fun e w' => ∃ va vc, e = .returned (.tuple #[.slice va (order7 g).length vc, .bool true]) ∧ w'.ownsRow w.heap.size 3 1 (.slice va (order7 g).length vc) (order7 g).length (ints (nats (order7 g))) ∧ Below w.heap.size w w' := by
  have hgm := G.most
  have HC : Hid (∀ W, Below w.heap.size w W → Calls Try.prog 16 #[.agg #[.slice a g.length c]] W fun e w' => e = .returned (.bool true) ∧ Below W.heap.size W w') := fun W hb => by
    have := iGood_any a c (g.map nats) true W (by simp; omega) (LRow.below h hb) (by simp [hG])
    rwa [List.length_map] at this
  have HO := hid (fun W (hb : Below w.heap.size w W) => iOrder_any G a c W (LRow.below h hb))
  clear h
  go_enter Try.func5, Try.ntmps5
  go_wp2_with fail
  refine (HC.out _ (below1 w _)).mono ?_
  rintro e w1 ⟨rfl, hb1⟩
  have d1 : w1.cell? ⟨w.heap.size, 0, none⟩ = some (.slice a g.length c) := cell_below (by simp [go_sem]) hb1
  have B1 := bstep' (below1 w _) hb1
  clear hb1
  go_wp2_with fail
  refine (HO.out _ B1).mono ?_
  rintro e w2 ⟨va, vc, rfl, ho2, hb2⟩
  have H2 := hid (And.intro (owns_mono ho2 B1.size) (bstep' B1 hb2))
  clear ho2 hb2
  go_wp2
  go_ret2
  exact ⟨va, vc, rfl, H2.out.1, H2.out.2⟩
end Go.Proofs.Ytiadmmnnbnamjaa
