/- What each two rules make of one text, as the model makes it. -/
import Derived.Test.YtpjhmminbndgiaaSPairs
namespace Go.Proofs.Ytpjhmminbndgiaa
open Go.RowKit
set_option linter.unusedVariables false
set_option linter.unusedSimpArgs false
set_option maxHeartbeats 4000000
set_option maxRecDepth 100000

theorem Sep.sub {w : World} {B : Nat} {l l' : List OR} (h : Sep w B l) (hs : l'.Sublist l) : Sep w B l' := ⟨fun x hx => h.1 x (hs.subset hx), h.2.sublist hs⟩
theorem slice_one {w : World} {B : Nat} {e : TypeId} {size n : Nat} {v : Value} {xs : List Value} (h : w.ownsRow B e size v n xs) : v.oneCell' = true := by
  obtain ⟨a, c, rfl⟩ := slice_of_owned h
  rfl
/-- pairs that were made, as what is appended -/
theorem MadeP.news {w : World} {B n : Nat} {v : Value} {ys : List PV} (h : MadeP w B [] v n ys) : ∃ a c, v = .slice a n c ∧ News w a n 1 (pvals ys) := by
  have ho := h.2.1 ⟨32, 1, v, n, pvals ys⟩ (by simp)
  have hl : (pvals ys).length = n * 1 := by simp [pvals, h.1]
  have h1 : ∀ u ∈ pvals ys, u.oneCell' = true := by
    intro u hu
    simp only [pvals, List.mem_map] at hu
    obtain ⟨y, hy, rfl⟩ := hu
    exact slice_one (h.2.1 (rowP y) (by simp; exact .inr ⟨y, hy, rfl⟩))
  rcases ho.2 with ⟨h2, h0⟩ | ⟨g, cap, cur, h2, hB, hg, hn, hm, hsz, htk⟩
  · simp only [] at h2 h0
    subst h2
    refine ⟨none, 0, by rw [h0], hl, h1, .inl ?_⟩
    exact List.eq_nil_of_length_eq_zero (by rw [hl, h0])
  · simp only [] at h2
    subst h2
    refine ⟨_, cap, rfl, hl, h1, .inr ⟨_, rfl, fun j u hj => ?_⟩⟩
    exact (h.2.cell (x := ⟨32, 1, .slice (some ⟨g, 0, none⟩) n cap, n, pvals ys⟩) (by simp) rfl hj |> fun h => by rw [addr_add, Nat.zero_add]; exact h)
def pairsIn (l : List Rl) (i j : Nat) : List (Tx × Tx) := (List.range j).flatMap fun j => pairs2 (l.getD i ([], [])) (l.getD j ([], [])) (decide (i = j))
def pairsTo (l : List Rl) (i : Nat) : List (Tx × Tx) := (List.range i).flatMap fun i => pairsIn l i l.length
theorem pairsB_eq (l : List Rl) : pairsB l = pairsTo l l.length := rfl
theorem pairsTo_succ (l : List Rl) (i : Nat) : pairsTo l (i + 1) = pairsTo l i ++ pairsIn l i l.length := by simp [pairsTo, List.range_succ]
theorem pairsIn_succ (l : List Rl) (i j : Nat) : pairsIn l i (j + 1) = pairsIn l i j ++ pairs2 (l.getD i ([], [])) (l.getD j ([], [])) (decide (i = j)) := by simp [pairsIn, List.range_succ]
theorem getD_rs {xs : List RB} {k : Nat} {f t : ByteArray} (h : xs[k]? = some (f, t)) : (Rs xs).getD k ([], []) = (Bt f, Bt t) := by
  rw [List.getD_eq_getElem?_getD, rs_at h]; rfl
/-- more pairs behind those that were made -/
theorem MadeP.join {w w3 : World} {B n n2 : Nat} {pre : List OR} {ov v2 : Value} {ys ys2 : List PV} (h : MadeP w B pre ov n ys) (hb : Below w.heap.size w w3) (hB : B ≤ w.heap.size) (h2 : MadeP w3 w.heap.size [] v2 n2 ys2) :
    Sep w3 B (pre ++ ⟨32, 1, ov, n, pvals ys⟩ :: (ys.map rowP ++ ⟨32, 1, v2, n2, pvals ys2⟩ :: ys2.map rowP)) := by
  have := Sep.append h.2 hb hB h2.2
  simpa using this
theorem MadeP.joined {w : World} {B n n2 : Nat} {pre : List OR} {va : Option Addr} {vc : Nat} {v2 : Value} {ys ys2 : List PV} (hn : n = ys.length) (hn2 : n2 = ys2.length)
    (h : Sep w B (pre ++ ⟨32, 1, .slice va (n + n2) vc, n + n2, pvals ys ++ pvals ys2⟩ :: (ys.map rowP ++ ⟨32, 1, v2, n2, pvals ys2⟩ :: ys2.map rowP))) : MadeP w B pre (.slice va (n + n2) vc) (n + n2) (ys ++ ys2) := by
  refine ⟨by simp [hn, hn2], ?_⟩
  have e : pvals (ys ++ ys2) = pvals ys ++ pvals ys2 := by simp [pvals]
  rw [e, List.map_append]
  refine h.sub ?_
  exact List.Sublist.append (List.Sublist.refl _) (List.Sublist.cons_cons _ (List.Sublist.append (List.Sublist.refl _) (List.sublist_cons_self _ _)))
theorem sCrit_any (a : Option Addr) (c : Nat) (xs : List RB) (w : World) (hg : rulesB (Rs xs) = true) (h : RRow w a xs) :
    Calls Try.prog 53 #[.slice a xs.length c] w fun e w' => (∃ v n ys, e = .returned v ∧ MadeP w' w.heap.size [] v n ys ∧ pprs ys = pairsB (Rs xs)) ∧ Below w.heap.size w w' := by
  have hx8 := good_len hg
  have H := hid h
  have HG := hid hg
  clear h hg
  go_enter Try.func53, Try.ntmps53
  go_wp2
  go_loopw [3, 10] (fun t3 t10 wr => ∃ (i n : Nat) (ys : List PV), t10 = .int .i64 (i : Int) ∧ i ≤ xs.length ∧ n ≤ i * 200 ∧ MadeP wr w.heap.size [] t3 n ys ∧ pprs ys = pairsTo (Rs xs) i ∧ Below w.heap.size w wr) (fun _ t10 _ => xs.length - (intOf t10).toNat)
  case atStart => exact ⟨0, 0, [], rfl, by omega, by omega, MadeP.nil _ _, rfl, Below.refl _ _⟩
  case round =>
    obtain ⟨W0, rfl⟩ : ∃ W0, W0 = wr := ⟨_, rfl⟩
    obtain ⟨i, n, ys, rfl, hi, hn, hM, hP, hB⟩ := hrel
    by_cases hlt : i < xs.length
    · obtain ⟨b, off, rfl, hbw, hat⟩ := H.out.at (by intro e; subst e; simp at hlt)
      obtain ⟨f, t, c1, c2, HX⟩ := hat W0 hB i hlt
      obtain ⟨hf6, ht6, _⟩ := good_at HG.out HX.out
      have hbr : b < W0.heap.size := Nat.lt_of_lt_of_le hbw hB.size
      clear hat
      have hb1 := below1 W0 (.cells #[.string f, .string t] 82)
      have HM1 : Hid (MadeP (W0.alloc (.cells #[.string f, .string t] 82)) w.heap.size [cellOR 82 2 W0.heap.size [.string f, .string t]] u3 n ys) := by
        refine ⟨hM.1, ?_⟩
        have := Sep.add hM.2 hb1 (cellOR 82 2 W0.heap.size [.string f, .string t]) (cell_own (cs := #[.string f, .string t]) (heap_alloc_new _ _) rfl hB.size) (fun k hk => by simp [Value.ownBlock] at hk; omega)
        simpa using this
      have HP0 := hid hP
      have HB1 := hid (bstep' hB hb1)
      clear hM hP hb1
      go_wp2
      go_loopw [3, 17] (fun t3 t17 wr => ∃ (j n : Nat) (ys : List PV), t17 = .int .i64 (j : Int) ∧ j ≤ xs.length ∧ n ≤ i * 200 + j * 20 ∧ MadeP wr w.heap.size [cellOR 82 2 W0.heap.size [.string f, .string t]] t3 n ys ∧ pprs ys = pairsTo (Rs xs) i ++ pairsIn (Rs xs) i j ∧ Below w.heap.size w wr) (fun _ t17 _ => xs.length - (intOf t17).toNat)
      case atStart => exact ⟨0, n, ys, rfl, by omega, by omega, HM1.out, by rw [HP0.out]; simp [pairsIn], HB1.out⟩
      case round =>
        clear HM1 HP0 HB1 hn
        obtain ⟨V0, rfl⟩ : ∃ V0, V0 = wr := ⟨_, rfl⟩
        obtain ⟨j, n, ys, rfl, hj, hn, hM, hP, hB2⟩ := hrel
        by_cases hjx : j < xs.length
        · obtain ⟨b', off', hbe, hbw', hat⟩ := H.out.at (by intro e; subst e; simp at hlt)
          obtain ⟨g, u, k1, k2, HY⟩ := hat V0 hB2 j hjx
          injection hbe with hbe
          injection hbe with e1 e2
          subst e1; subst e2
          obtain ⟨hg6, hu6, _⟩ := good_at HG.out HY.out
          have hbv : b < V0.heap.size := Nat.lt_of_lt_of_le hbw hB2.size
          clear hat
          have d0 : V0.cell? ⟨W0.heap.size, 0, none⟩ = some (.string f) := hM.2.cell (x := cellOR 82 2 W0.heap.size [.string f, .string t]) (by simp) rfl (j := 0) rfl
          have d1 : V0.cell? ⟨W0.heap.size, 1, none⟩ = some (.string t) := hM.2.cell (x := cellOR 82 2 W0.heap.size [.string f, .string t]) (by simp) rfl (j := 1) rfl
          have hW0 := World.block_lt_of_cell? V0 _ d0
          simp only [] at hW0
          have hsm : decide (i = j) = true → f = g := by
            intro h
            have := of_decide_eq_true h
            subst this
            have := HX.out.symm.trans HY.out
            simp at this
            exact this.1
          have hdec : ((i : Int) == (j : Int)) = decide (i = j) := by
            rw [Bool.eq_iff_iff]; simp; omega
          have hin := pairsIn_succ (Rs xs) i j
          rw [getD_rs HX.out, getD_rs HY.out] at hin
          generalize decide (i = j) = same at hsm hdec hin
          have HIN : Hid (pairsTo (Rs xs) i ++ pairsIn (Rs xs) i (j + 1) = pprs ys ++ pairs2 (Bt f, Bt t) (Bt g, Bt u) same) := by show _ = _; rw [hin, hP, List.append_assoc]
          have HM := hid hM
          have HSM := hid hsm
          clear hM hP hin hsm
          have d0' : (V0.alloc (.cells #[.string g, .string u] 82)).cell? ⟨W0.heap.size, 0, none⟩ = some (.string f) := cell_below d0 (below1 _ _)
          have d1' : (V0.alloc (.cells #[.string g, .string u] 82)).cell? ⟨W0.heap.size, 1, none⟩ = some (.string t) := cell_below d1 (below1 _ _)
          go_wp2_with fail
          refine (sPairs_any f t g u same _ hf6 ht6 hg6 hu6 HSM.out).mono ?_
          rintro e w3 ⟨⟨v2, n2, ys2, rfl, hM2, hP2, hn2⟩, hb3⟩
          have hbV := below1 V0 (.cells #[.string g, .string u] 82)
          have hM3 := (HM.out.below hbV).join hb3 (Nat.le_trans hB2.size hbV.size) hM2
          obtain ⟨na, nc, rfl, hN⟩ := hM2.news
          have HM3 := hid hM3
          have HN := hid hN
          have HI2 := hid (And.intro hM2.1 hP2)
          have hB3 := (hB2.trans (hbV.mono hB2.size)).trans (hb3.mono (Nat.le_trans hB2.size hbV.size))
          have HB3 := hid hB3
          clear hM3 hN hM2 hP2 hb3 hbV hB3 d0 d1 d0' d1' k1 k2 c1 c2
          go_wp2_with (at_builtin; refine wpList_append_sep eltStrs rfl _ _ rfl w.heap.size [cellOR 82 2 W0.heap.size [.string f, .string t]] HM3.out rfl HN.out rfl (by omega) HB3.out.size ?_)
          intro va2 vc2 w5 hs5 hb5 hg5
          have HS5 := hid (MadeP.joined (pre := [cellOR 82 2 W0.heap.size [.string f, .string t]]) HM.out.1 HI2.out.1 hs5)
          have HB5 := hid (HB3.out.trans hb5)
          clear hs5 hb5 hg5
          go_wp2
          go_roundw
          case rel =>
            refine ⟨j + 1, n + n2, ys ++ ys2, by go_num, by omega, by omega, HS5.out, ?_, HB5.out⟩
            rw [HIN.out, ← HI2.out.2]; simp [pprs]
          case measure => simp [intOf]; omega
        · obtain rfl : j = xs.length := by omega
          have HP : Hid (pprs ys = pairsTo (Rs xs) (i + 1)) := by show _ = _; rw [hP, pairsTo_succ, Rs_length]
          have HM : Hid (MadeP V0 w.heap.size [] u3 n ys) := ⟨hM.1, hM.2.tail⟩
          clear hM hP
          go_wp2
          go_roundw
          case rel => exact ⟨i + 1, n, ys, by go_num, by omega, by omega, HM.out, HP.out, hB2⟩
          case measure => simp [intOf]; omega
    · obtain rfl : i = xs.length := by omega
      have HM := hid hM
      have HP : Hid (pprs ys = pairsB (Rs xs)) := by show _ = _; rw [pairsB_eq, Rs_length]; exact hP
      clear hM hP
      go_wp2
      go_ret
      exact ⟨⟨_, n, ys, rfl, HM.out, HP.out⟩, hB⟩
end Go.Proofs.Ytpjhmminbndgiaa
