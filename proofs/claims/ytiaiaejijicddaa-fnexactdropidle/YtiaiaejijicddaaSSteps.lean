/- The model's code of flat steps. -/
import Derived.Test.YtiaiaejijicddaaSLow
import Derived.Deep.RegionHeld3
import Derived.Deep.Cut
namespace Go.Proofs.Ytiaiaejijicddaa
open Go.RowKit
set_option linter.unusedVariables false
set_option linter.unusedSimpArgs false
set_option maxRecDepth 100000

theorem step_append_sep {T e : TypeId} {size bytes : Nat} (E : Elt T e size bytes) {w : World} {ops : Array Oper} {o : Oper} {a : Act} {K : Act → World → Prop} {Q : Exit → Act → World → Prop} {F : Prop} (hgd : o.guard = none) (s x : Operand)
    (ho : o.op = .call { callee := .builtin .append, args := #[s, x], argTypes := #[T, T] })
    (B : Nat) (l1 : List OR) {v : Value} {n : Nat} {xs : List Value} {l2 : List OR} (h : Sep w B (l1 ++ ⟨e, size, v, n, xs⟩ :: l2)) (hs : a.eval s = v) {ad : Option Addr} {m c : Nat} {news : List Value} (hn : News w ad m size news) (hx : a.eval x = .slice ad m c) (hb : n + m ≤ 4000000) (hB : B ≤ w.heap.size)
    (k : ∀ va vc w', Sep w' B (l1 ++ ⟨e, size, .slice va (n + m) vc, n + m, xs ++ news⟩ :: l2) → Below B w w' → w.grownBy w' v.ownBlock → K (a.put o.dst (.slice va (n + m) vc)) w') :
    if Region.wanted o (yielded ops a.tmps) = true then Oper.wp Try.prog o a w K Q else F := by
  have hw : Region.wanted o (yielded ops a.tmps) = true := by simp [Region.wanted, hgd]
  rw [if_pos hw]
  exact wp_append_sep E s x ho B l1 h hs hn hx hb hB k
/-- a struct has been laid in a block of its own -/
theorem Sep.box {w : World} {B : Nat} {l : List OR} (h : Sep w B l) (hB : B ≤ w.heap.size) (t size : Nat) (cs : Array Value) (hs : cs.size = size) : Sep (w.alloc (.cells cs t)) B (cellOR t size w.heap.size cs.toList :: l) :=
  Sep.add h (below1 w _) (cellOR t size w.heap.size cs.toList) (cell_own (cs := cs) (heap_alloc_new _ _) hs hB) (fun k hk => by simp [Value.ownBlock] at hk; omega)
set_option maxHeartbeats 4000000 in
theorem l14Steps_any (a : Option Addr) (c : Nat) (xs : List Flt) (w : World) (hl : xs.length ≤ 60) (h : FRow w a xs) :
    Calls Try.prog 28 #[.slice a xs.length c, .slice none 0 0] w fun e w' => ∃ va vc, e = .returned (.slice va (codeL xs).length vc) ∧ w'.ownsRow w.heap.size 58 3 (.slice va (codeL xs).length vc) (codeL xs).length (flatN (codeL xs)) ∧ Below w.heap.size w w' := by
  have H := hid h
  clear h
  go_enter Try.func28, Try.ntmps28
  go_wp2
  go_loopw [1, 9] (fun t1 t9 wr => ∃ (k : Nat) (va : Option Addr) (vc : Nat), t9 = .int .i64 k ∧ k ≤ xs.length ∧ t1 = .slice va (codeL (xs.take k)).length vc ∧ Hid (Sep wr w.heap.size ([] ++ ⟨58, 3, .slice va (codeL (xs.take k)).length vc, (codeL (xs.take k)).length, flatN (codeL (xs.take k))⟩ :: [])) ∧ Hid (Below w.heap.size w wr)) (fun _ t9 _ => xs.length - (intOf t9).toNat)
  case atStart => exact ⟨0, none, 0, rfl, by omega, rfl, sep_one (World.ownsRow_nil _ _ _ _), Below.refl _ _⟩
  case round =>
    obtain ⟨k, va, vc, rfl, hk, rfl, HS, HB⟩ := hrel
    by_cases hlt : k < xs.length
    · obtain ⟨b, off, rfl, hbw, hat⟩ := H.out.at (by intro e; subst e; simp at hlt)
      obtain ⟨p, d, t, x, y, n, f0, f1, f2, f3, f4, f5, HX⟩ := hat wr HB.out k hlt
      clear hat
      have HC : Hid (_) := codeL_snoc HX.out
      obtain ⟨acc, hacc⟩ : ∃ l, codeL (xs.take k) = l := ⟨_, rfl⟩
      have hal : acc.length ≤ 240 := by rw [← hacc]; have := codeL_len (xs.take k); rw [List.length_take] at this; omega
      rw [hacc] at HS HC ⊢
      clear hacc
      have hBs : w.heap.size ≤ wr.heap.size := HB.out.size
      have HSF := hid (Sep.box HS.out hBs 49 6 #[.int .i64 p, .int .i64 d, .int .i64 t, .int .i64 x, .int .i64 y, .int .i64 n] rfl)
      have HBF := hid (bstep' HB.out (below1 wr (.cells #[.int .i64 p, .int .i64 d, .int .i64 t, .int .i64 x, .int .i64 y, .int .i64 n] 49)))
      have W1s : (wr.alloc (.cells #[.int .i64 p, .int .i64 d, .int .i64 t, .int .i64 x, .int .i64 y, .int .i64 n] 49)).heap.size = wr.heap.size + 1 := by simp
      obtain ⟨W1, hW1⟩ : ∃ W, W = wr.alloc (.cells #[.int .i64 p, .int .i64 d, .int .i64 t, .int .i64 x, .int .i64 y, .int .i64 n] 49) := ⟨_, rfl⟩
      rw [← hW1] at HSF HBF W1s
      have HW1 : Hid (wr.alloc (.cells #[.int .i64 p, .int .i64 d, .int .i64 t, .int .i64 x, .int .i64 y, .int .i64 n] 49) = W1) := hW1.symm
      clear hW1
      have HCL : Hid (∀ W, Sep W w.heap.size (cellOR 49 6 wr.heap.size [.int .i64 p, .int .i64 d, .int .i64 t, .int .i64 x, .int .i64 y, .int .i64 n] :: []) → W.cell? ⟨wr.heap.size, 0, none⟩ = some (.int .i64 p) ∧ W.cell? ⟨wr.heap.size, 1, none⟩ = some (.int .i64 d) ∧ W.cell? ⟨wr.heap.size, 2, none⟩ = some (.int .i64 t) ∧ W.cell? ⟨wr.heap.size, 3, none⟩ = some (.int .i64 x) ∧ W.cell? ⟨wr.heap.size, 4, none⟩ = some (.int .i64 y) ∧ W.cell? ⟨wr.heap.size, 5, none⟩ = some (.int .i64 n)) := fun W hS =>
        ⟨hS.cell (x := cellOR 49 6 wr.heap.size [.int .i64 p, .int .i64 d, .int .i64 t, .int .i64 x, .int .i64 y, .int .i64 n]) (by simp) rfl (j := 0) rfl, hS.cell (x := cellOR 49 6 wr.heap.size [.int .i64 p, .int .i64 d, .int .i64 t, .int .i64 x, .int .i64 y, .int .i64 n]) (by simp) rfl (j := 1) rfl, hS.cell (x := cellOR 49 6 wr.heap.size [.int .i64 p, .int .i64 d, .int .i64 t, .int .i64 x, .int .i64 y, .int .i64 n]) (by simp) rfl (j := 2) rfl, hS.cell (x := cellOR 49 6 wr.heap.size [.int .i64 p, .int .i64 d, .int .i64 t, .int .i64 x, .int .i64 y, .int .i64 n]) (by simp) rfl (j := 3) rfl, hS.cell (x := cellOR 49 6 wr.heap.size [.int .i64 p, .int .i64 d, .int .i64 t, .int .i64 x, .int .i64 y, .int .i64 n]) (by simp) rfl (j := 4) rfl, hS.cell (x := cellOR 49 6 wr.heap.size [.int .i64 p, .int .i64 d, .int .i64 t, .int .i64 x, .int .i64 y, .int .i64 n]) (by simp) rfl (j := 5) rfl⟩
      have HCW : Hid (∀ W va m vc ys, Sep W w.heap.size ([cellOR 49 6 wr.heap.size [.int .i64 p, .int .i64 d, .int .i64 t, .int .i64 x, .int .i64 y, .int .i64 n]] ++ ⟨58, 3, .slice va m vc, m, ys⟩ :: []) → Sep W w.heap.size (cellOR 49 6 wr.heap.size [.int .i64 p, .int .i64 d, .int .i64 t, .int .i64 x, .int .i64 y, .int .i64 n] :: [])) := fun W va m vc ys hS => ⟨fun z hz => hS.1 z (by simp at hz ⊢; exact .inl hz), by simp⟩
      have HCR : Hid (∀ W va m vc ys, Sep W w.heap.size ([cellOR 49 6 wr.heap.size [.int .i64 p, .int .i64 d, .int .i64 t, .int .i64 x, .int .i64 y, .int .i64 n]] ++ ⟨58, 3, .slice va m vc, m, ys⟩ :: []) → Sep W w.heap.size ([] ++ ⟨58, 3, .slice va m vc, m, ys⟩ :: [])) := fun W va m vc ys hS => Sep.tail hS
      by_cases h1 : p = 1
      · subst h1
        have HSB : Hid (∀ W, Below W1.heap.size W1 W → ∀ o, Sep (W.alloc o) w.heap.size ([cellOR 49 6 wr.heap.size [.int .i64 1, .int .i64 d, .int .i64 t, .int .i64 x, .int .i64 y, .int .i64 n]] ++ ⟨58, 3, .slice va acc.length vc, acc.length, flatN acc⟩ :: [])) := fun W hW o => Sep.below (Sep.below HSF.out hW) (below1 W o)
        have HZB : Hid (∀ W o, Below W1.heap.size W1 W → Below w.heap.size w (W.alloc o)) := fun W o hW => bstep' (bstep' HBF.out hW) (below1 W o)
        have HCK : Hid (∀ W, Below W1.heap.size W1 W → W.cell? ⟨wr.heap.size, 0, none⟩ = some (.int .i64 1) ∧ W.cell? ⟨wr.heap.size, 1, none⟩ = some (.int .i64 d) ∧ W.cell? ⟨wr.heap.size, 2, none⟩ = some (.int .i64 t) ∧ W.cell? ⟨wr.heap.size, 3, none⟩ = some (.int .i64 x) ∧ W.cell? ⟨wr.heap.size, 4, none⟩ = some (.int .i64 y) ∧ W.cell? ⟨wr.heap.size, 5, none⟩ = some (.int .i64 n)) := fun W hW => HCL.out W (HCW.out _ _ _ _ _ (Sep.below HSF.out hW))
        have k9 := HCK.out _ (Below.refl _ _)
        obtain ⟨k0, k1, k2, k3, k4, k5⟩ := k9
        have HST : Hid (∀ W, Calls Try.prog 37 #[.int .i64 1] W fun e w' => e = .returned (.bool true) ∧ w' = W) := fun W => l9Sets_any _ W
        have HL : Hid (∀ W a b, Below W1.heap.size W1 W → Calls Try.prog 56 #[.int .i64 a, .int .i64 b] W fun e w' => e = .returned (.agg #[.int .i64 a, .int .i64 b, .slice none 0 0]) ∧ Below W1.heap.size W1 w') := fun W a b hW => (l3_any a b W).mono fun e w' ⟨h, hb⟩ => ⟨h, bstep' hW hb⟩
        replace HC : Hid (codeL (xs.take (k + 1)) = acc ++ [(1, n), (3, t)]) := by show _ = _; rw [HC.out]; simp [codeF, bodyF, setsB, inB]
        go_upto_region 4 with fail
        try rw [HW1.out]
        go_wp2_with (first | (go_at_call 56; refine (HL.out _ _ _ (by first | exact hb2 | exact Below.refl _ _ | exact below_drewN (Below.refl _ _) _ | exact (Below.refl _ _).drew)).mono ?_; rintro e w2 ⟨rfl, hb2⟩) | (at_builtin; refine wpList_append_sep eltStep rfl _ _ rfl w.heap.size [cellOR 49 6 wr.heap.size [.int .i64 1, .int .i64 d, .int .i64 t, .int .i64 x, .int .i64 y, .int .i64 n]] (HSB.out _ hb2 _) rfl (News.fresh w2 [.int .i64 1, .int .i64 n, .slice none 0 0] 58 w2.heap.size 1 3 rfl rfl (by simp [Value.oneCell'])) rfl (by omega) (HZB.out _ _ hb2).size ?_))
        intro va9 vc9 w9 hs9 hb9 hg9
        have HS9 := hid hs9
        have HB9 := hid ((HZB.out _ _ hb2).trans hb9)
        clear hs9 hb9 hg9
        have q9 := HCL.out _ (HCW.out _ _ _ _ _ HS9.out)
        obtain ⟨q0, -, q2, -, -, -⟩ := q9
        go_wp2_with (first | (go_at_call 37; refine (HST.out _).mono ?_; rintro e w' ⟨rfl, rfl⟩) | (go_at_call 56; refine (l3_any _ _ _).mono ?_; rintro e w10 ⟨rfl, hb10⟩; have hsA := Sep.below (Sep.below HS9.out hb10) (below1 w10 (.cells #[.int .i64 3, .int .i64 t, .slice none 0 0] 58)); have hbA := bstep' (bstep' HB9.out hb10) (below1 w10 (.cells #[.int .i64 3, .int .i64 t, .slice none 0 0] 58))) | (at_builtin; refine wpList_append_sep eltStep rfl _ _ rfl w.heap.size [cellOR 49 6 wr.heap.size [.int .i64 1, .int .i64 d, .int .i64 t, .int .i64 x, .int .i64 y, .int .i64 n]] hsA rfl (News.fresh w10 [.int .i64 3, .int .i64 t, .slice none 0 0] 58 w10.heap.size 1 3 rfl rfl (by simp [Value.oneCell'])) rfl (by omega) hbA.size ?_))
        intro va11 vc11 w11 hs11 hb11 hg11
        have HSE := hid (HCR.out _ _ _ _ _ hs11)
        have HBE := hid (hbA.trans hb11)
        clear hsA hbA hs11 hb11 hg11 hb10 HS9 HB9
        go_wp2
        go_roundw
        case rel =>
          refine ⟨k + 1, va11, vc11, by go_num, by omega, ?_, ?_, HBE.out⟩
          · rw [HC.out]; simp
          · show Sep _ _ _
            rw [HC.out]
            have h9 := HSE.out
            simpa [flatN] using h9
        case measure => simp [intOf]; omega
      by_cases h3 : p = 3
      · subst h3
        have HSB : Hid (∀ W, Below W1.heap.size W1 W → ∀ o, Sep (W.alloc o) w.heap.size ([cellOR 49 6 wr.heap.size [.int .i64 3, .int .i64 d, .int .i64 t, .int .i64 x, .int .i64 y, .int .i64 n]] ++ ⟨58, 3, .slice va acc.length vc, acc.length, flatN acc⟩ :: [])) := fun W hW o => Sep.below (Sep.below HSF.out hW) (below1 W o)
        have HZB : Hid (∀ W o, Below W1.heap.size W1 W → Below w.heap.size w (W.alloc o)) := fun W o hW => bstep' (bstep' HBF.out hW) (below1 W o)
        have HCK : Hid (∀ W, Below W1.heap.size W1 W → W.cell? ⟨wr.heap.size, 0, none⟩ = some (.int .i64 3) ∧ W.cell? ⟨wr.heap.size, 1, none⟩ = some (.int .i64 d) ∧ W.cell? ⟨wr.heap.size, 2, none⟩ = some (.int .i64 t) ∧ W.cell? ⟨wr.heap.size, 3, none⟩ = some (.int .i64 x) ∧ W.cell? ⟨wr.heap.size, 4, none⟩ = some (.int .i64 y) ∧ W.cell? ⟨wr.heap.size, 5, none⟩ = some (.int .i64 n)) := fun W hW => HCL.out W (HCW.out _ _ _ _ _ (Sep.below HSF.out hW))
        have k9 := HCK.out _ (Below.refl _ _)
        obtain ⟨k0, k1, k2, k3, k4, k5⟩ := k9
        have HST : Hid (∀ W, Calls Try.prog 37 #[.int .i64 3] W fun e w' => e = .returned (.bool true) ∧ w' = W) := fun W => l9Sets_any _ W
        have HL : Hid (∀ W a b, Below W1.heap.size W1 W → Calls Try.prog 56 #[.int .i64 a, .int .i64 b] W fun e w' => e = .returned (.agg #[.int .i64 a, .int .i64 b, .slice none 0 0]) ∧ Below W1.heap.size W1 w') := fun W a b hW => (l3_any a b W).mono fun e w' ⟨h, hb⟩ => ⟨h, bstep' hW hb⟩
        replace HC : Hid (codeL (xs.take (k + 1)) = acc ++ [(2, x), (2, y), (d, 0), (3, t)]) := by show _ = _; rw [HC.out]; simp [codeF, bodyF, setsB, inB]
        go_upto_region 9 with fail
        try rw [HW1.out]
        go_region_held3 (fun W => W.cell? ⟨wr.heap.size, 0, none⟩ = some (.int .i64 3) ∧ W.cell? ⟨wr.heap.size, 1, none⟩ = some (.int .i64 d) ∧ W.cell? ⟨wr.heap.size, 2, none⟩ = some (.int .i64 t) ∧ W.cell? ⟨wr.heap.size, 3, none⟩ = some (.int .i64 x) ∧ W.cell? ⟨wr.heap.size, 4, none⟩ = some (.int .i64 y) ∧ W.cell? ⟨wr.heap.size, 5, none⟩ = some (.int .i64 n)) ((first | exact hc9 | exact HCK.out _ hb2 | exact HCK.out _ (below_drewN (Below.refl _ _) _) | go_keep)) ((first | (go_at_call 56; refine (HL.out _ _ _ (by first | exact hb2 | exact Below.refl _ _ | exact below_drewN (Below.refl _ _) _ | exact (Below.refl _ _).drew)).mono ?_; rintro e w2 ⟨rfl, hb2⟩) | (refine step_append_sep eltStep (by rfl) _ _ (by rfl) w.heap.size [cellOR 49 6 wr.heap.size [.int .i64 3, .int .i64 d, .int .i64 t, .int .i64 x, .int .i64 y, .int .i64 n]] (HSB.out _ hb2 _) (by rfl) (News.fresh w2 [.int .i64 2, .int .i64 x, .slice none 0 0, .int .i64 2, .int .i64 y, .slice none 0 0, .int .i64 d, .int .i64 0, .slice none 0 0] 58 w2.heap.size 3 3 rfl rfl (by simp [Value.oneCell'])) (by rfl) (by omega) (HZB.out _ _ hb2).size ?_; intro va9 vc9 w9 hs9 hb9 hg9; have hc9 := HCL.out _ (HCW.out _ _ _ _ _ hs9); have HS9 := hid hs9; have HB9 := hid ((HZB.out _ _ hb2).trans hb9); clear hs9 hb9 hg9)))
        all_goals
          have q9 := HCL.out _ (HCW.out _ _ _ _ _ HS9.out)
          obtain ⟨q0, -, q2, -, -, -⟩ := q9
          go_wp2_with (first | (go_at_call 37; refine (HST.out _).mono ?_; rintro e w' ⟨rfl, rfl⟩) | (go_at_call 56; refine (l3_any _ _ _).mono ?_; rintro e w10 ⟨rfl, hb10⟩; have hsA := Sep.below (Sep.below HS9.out hb10) (below1 w10 (.cells #[.int .i64 3, .int .i64 t, .slice none 0 0] 58)); have hbA := bstep' (bstep' HB9.out hb10) (below1 w10 (.cells #[.int .i64 3, .int .i64 t, .slice none 0 0] 58))) | (at_builtin; refine wpList_append_sep eltStep rfl _ _ rfl w.heap.size [cellOR 49 6 wr.heap.size [.int .i64 3, .int .i64 d, .int .i64 t, .int .i64 x, .int .i64 y, .int .i64 n]] hsA rfl (News.fresh w10 [.int .i64 3, .int .i64 t, .slice none 0 0] 58 w10.heap.size 1 3 rfl rfl (by simp [Value.oneCell'])) rfl (by omega) hbA.size ?_))
          intro va11 vc11 w11 hs11 hb11 hg11
          have HSE := hid (HCR.out _ _ _ _ _ hs11)
          have HBE := hid (hbA.trans hb11)
          clear hsA hbA hs11 hb11 hg11 hb10 HS9 HB9
          go_wp2
          go_roundw
          case rel =>
            refine ⟨k + 1, va11, vc11, by go_num, by omega, ?_, ?_, HBE.out⟩
            · rw [HC.out]; simp
            · show Sep _ _ _
              rw [HC.out]
              have h9 := HSE.out
              simpa [flatN] using h9
          case measure => simp [intOf]; omega
      by_cases h4 : p = 4
      · subst h4
        have HSB : Hid (∀ W, Below W1.heap.size W1 W → ∀ o, Sep (W.alloc o) w.heap.size ([cellOR 49 6 wr.heap.size [.int .i64 4, .int .i64 d, .int .i64 t, .int .i64 x, .int .i64 y, .int .i64 n]] ++ ⟨58, 3, .slice va acc.length vc, acc.length, flatN acc⟩ :: [])) := fun W hW o => Sep.below (Sep.below HSF.out hW) (below1 W o)
        have HZB : Hid (∀ W o, Below W1.heap.size W1 W → Below w.heap.size w (W.alloc o)) := fun W o hW => bstep' (bstep' HBF.out hW) (below1 W o)
        have HCK : Hid (∀ W, Below W1.heap.size W1 W → W.cell? ⟨wr.heap.size, 0, none⟩ = some (.int .i64 4) ∧ W.cell? ⟨wr.heap.size, 1, none⟩ = some (.int .i64 d) ∧ W.cell? ⟨wr.heap.size, 2, none⟩ = some (.int .i64 t) ∧ W.cell? ⟨wr.heap.size, 3, none⟩ = some (.int .i64 x) ∧ W.cell? ⟨wr.heap.size, 4, none⟩ = some (.int .i64 y) ∧ W.cell? ⟨wr.heap.size, 5, none⟩ = some (.int .i64 n)) := fun W hW => HCL.out W (HCW.out _ _ _ _ _ (Sep.below HSF.out hW))
        have k9 := HCK.out _ (Below.refl _ _)
        obtain ⟨k0, k1, k2, k3, k4, k5⟩ := k9
        have HST : Hid (∀ W, Calls Try.prog 37 #[.int .i64 4] W fun e w' => e = .returned (.bool true) ∧ w' = W) := fun W => l9Sets_any _ W
        have HL : Hid (∀ W a b, Below W1.heap.size W1 W → Calls Try.prog 56 #[.int .i64 a, .int .i64 b] W fun e w' => e = .returned (.agg #[.int .i64 a, .int .i64 b, .slice none 0 0]) ∧ Below W1.heap.size W1 w') := fun W a b hW => (l3_any a b W).mono fun e w' ⟨h, hb⟩ => ⟨h, bstep' hW hb⟩
        replace HC : Hid (codeL (xs.take (k + 1)) = acc ++ [(2, x), (10, 0), (3, t)]) := by show _ = _; rw [HC.out]; simp [codeF, bodyF, setsB, inB]
        go_upto_region 4 with fail
        try rw [HW1.out]
        go_wp2_with (first | (go_at_call 56; refine (HL.out _ _ _ (by first | exact hb2 | exact Below.refl _ _ | exact below_drewN (Below.refl _ _) _ | exact (Below.refl _ _).drew)).mono ?_; rintro e w2 ⟨rfl, hb2⟩) | (at_builtin; refine wpList_append_sep eltStep rfl _ _ rfl w.heap.size [cellOR 49 6 wr.heap.size [.int .i64 4, .int .i64 d, .int .i64 t, .int .i64 x, .int .i64 y, .int .i64 n]] (HSB.out _ hb2 _) rfl (News.fresh w2 [.int .i64 2, .int .i64 x, .slice none 0 0, .int .i64 10, .int .i64 0, .slice none 0 0] 58 w2.heap.size 2 3 rfl rfl (by simp [Value.oneCell'])) rfl (by omega) (HZB.out _ _ hb2).size ?_))
        intro va9 vc9 w9 hs9 hb9 hg9
        have HS9 := hid hs9
        have HB9 := hid ((HZB.out _ _ hb2).trans hb9)
        clear hs9 hb9 hg9
        have q9 := HCL.out _ (HCW.out _ _ _ _ _ HS9.out)
        obtain ⟨q0, -, q2, -, -, -⟩ := q9
        go_wp2_with (first | (go_at_call 37; refine (HST.out _).mono ?_; rintro e w' ⟨rfl, rfl⟩) | (go_at_call 56; refine (l3_any _ _ _).mono ?_; rintro e w10 ⟨rfl, hb10⟩; have hsA := Sep.below (Sep.below HS9.out hb10) (below1 w10 (.cells #[.int .i64 3, .int .i64 t, .slice none 0 0] 58)); have hbA := bstep' (bstep' HB9.out hb10) (below1 w10 (.cells #[.int .i64 3, .int .i64 t, .slice none 0 0] 58))) | (at_builtin; refine wpList_append_sep eltStep rfl _ _ rfl w.heap.size [cellOR 49 6 wr.heap.size [.int .i64 4, .int .i64 d, .int .i64 t, .int .i64 x, .int .i64 y, .int .i64 n]] hsA rfl (News.fresh w10 [.int .i64 3, .int .i64 t, .slice none 0 0] 58 w10.heap.size 1 3 rfl rfl (by simp [Value.oneCell'])) rfl (by omega) hbA.size ?_))
        intro va11 vc11 w11 hs11 hb11 hg11
        have HSE := hid (HCR.out _ _ _ _ _ hs11)
        have HBE := hid (hbA.trans hb11)
        clear hsA hbA hs11 hb11 hg11 hb10 HS9 HB9
        go_wp2
        go_roundw
        case rel =>
          refine ⟨k + 1, va11, vc11, by go_num, by omega, ?_, ?_, HBE.out⟩
          · rw [HC.out]; simp
          · show Sep _ _ _
            rw [HC.out]
            have h9 := HSE.out
            simpa [flatN] using h9
        case measure => simp [intOf]; omega
      by_cases h5 : p = 5
      · subst h5
        have HSB : Hid (∀ W, Below W1.heap.size W1 W → ∀ o, Sep (W.alloc o) w.heap.size ([cellOR 49 6 wr.heap.size [.int .i64 5, .int .i64 d, .int .i64 t, .int .i64 x, .int .i64 y, .int .i64 n]] ++ ⟨58, 3, .slice va acc.length vc, acc.length, flatN acc⟩ :: [])) := fun W hW o => Sep.below (Sep.below HSF.out hW) (below1 W o)
        have HZB : Hid (∀ W o, Below W1.heap.size W1 W → Below w.heap.size w (W.alloc o)) := fun W o hW => bstep' (bstep' HBF.out hW) (below1 W o)
        have HCK : Hid (∀ W, Below W1.heap.size W1 W → W.cell? ⟨wr.heap.size, 0, none⟩ = some (.int .i64 5) ∧ W.cell? ⟨wr.heap.size, 1, none⟩ = some (.int .i64 d) ∧ W.cell? ⟨wr.heap.size, 2, none⟩ = some (.int .i64 t) ∧ W.cell? ⟨wr.heap.size, 3, none⟩ = some (.int .i64 x) ∧ W.cell? ⟨wr.heap.size, 4, none⟩ = some (.int .i64 y) ∧ W.cell? ⟨wr.heap.size, 5, none⟩ = some (.int .i64 n)) := fun W hW => HCL.out W (HCW.out _ _ _ _ _ (Sep.below HSF.out hW))
        have k9 := HCK.out _ (Below.refl _ _)
        obtain ⟨k0, k1, k2, k3, k4, k5⟩ := k9
        have HST : Hid (∀ W, Calls Try.prog 37 #[.int .i64 5] W fun e w' => e = .returned (.bool false) ∧ w' = W) := fun W => l9Sets_any _ W
        have HL : Hid (∀ W a b, Below W1.heap.size W1 W → Calls Try.prog 56 #[.int .i64 a, .int .i64 b] W fun e w' => e = .returned (.agg #[.int .i64 a, .int .i64 b, .slice none 0 0]) ∧ Below W1.heap.size W1 w') := fun W a b hW => (l3_any a b W).mono fun e w' ⟨h, hb⟩ => ⟨h, bstep' hW hb⟩
        replace HC : Hid (codeL (xs.take (k + 1)) = acc ++ [(2, x), (2, y), (11, 0)]) := by show _ = _; rw [HC.out]; simp [codeF, bodyF, setsB, inB]
        go_upto_region 13 with fail
        try rw [HW1.out]
        go_region_held3 (fun W => W.cell? ⟨wr.heap.size, 0, none⟩ = some (.int .i64 5) ∧ W.cell? ⟨wr.heap.size, 1, none⟩ = some (.int .i64 d) ∧ W.cell? ⟨wr.heap.size, 2, none⟩ = some (.int .i64 t) ∧ W.cell? ⟨wr.heap.size, 3, none⟩ = some (.int .i64 x) ∧ W.cell? ⟨wr.heap.size, 4, none⟩ = some (.int .i64 y) ∧ W.cell? ⟨wr.heap.size, 5, none⟩ = some (.int .i64 n)) ((first | exact hc9 | exact HCK.out _ hb2 | exact HCK.out _ (below_drewN (Below.refl _ _) _) | go_keep)) ((first | (go_at_call 56; refine (HL.out _ _ _ (by first | exact hb2 | exact Below.refl _ _ | exact below_drewN (Below.refl _ _) _ | exact (Below.refl _ _).drew)).mono ?_; rintro e w2 ⟨rfl, hb2⟩) | (refine step_append_sep eltStep (by rfl) _ _ (by rfl) w.heap.size [cellOR 49 6 wr.heap.size [.int .i64 5, .int .i64 d, .int .i64 t, .int .i64 x, .int .i64 y, .int .i64 n]] (HSB.out _ hb2 _) (by rfl) (News.fresh w2 [.int .i64 2, .int .i64 x, .slice none 0 0, .int .i64 2, .int .i64 y, .slice none 0 0, .int .i64 11, .int .i64 0, .slice none 0 0] 58 w2.heap.size 3 3 rfl rfl (by simp [Value.oneCell'])) (by rfl) (by omega) (HZB.out _ _ hb2).size ?_; intro va9 vc9 w9 hs9 hb9 hg9; have hc9 := HCL.out _ (HCW.out _ _ _ _ _ hs9); have HS9 := hid hs9; have HB9 := hid ((HZB.out _ _ hb2).trans hb9); clear hs9 hb9 hg9)))
        all_goals
          have q9 := HCL.out _ (HCW.out _ _ _ _ _ HS9.out)
          obtain ⟨q0, -, q2, -, -, -⟩ := q9
          go_wp2_with (first | (go_at_call 37; refine (HST.out _).mono ?_; rintro e w' ⟨rfl, rfl⟩))
          have HSE := hid (HCR.out _ _ _ _ _ HS9.out)
          have HBE := hid HB9.out
          go_wp2
          go_roundw
          case rel =>
            refine ⟨k + 1, va9, vc9, by go_num, by omega, ?_, ?_, HBE.out⟩
            · rw [HC.out]; simp
            · show Sep _ _ _
              rw [HC.out]
              have h9 := HSE.out
              simpa [flatN] using h9
          case measure => simp [intOf]; omega
      by_cases h6 : p = 6
      · subst h6
        have HSB : Hid (∀ W, Below W1.heap.size W1 W → ∀ o, Sep (W.alloc o) w.heap.size ([cellOR 49 6 wr.heap.size [.int .i64 6, .int .i64 d, .int .i64 t, .int .i64 x, .int .i64 y, .int .i64 n]] ++ ⟨58, 3, .slice va acc.length vc, acc.length, flatN acc⟩ :: [])) := fun W hW o => Sep.below (Sep.below HSF.out hW) (below1 W o)
        have HZB : Hid (∀ W o, Below W1.heap.size W1 W → Below w.heap.size w (W.alloc o)) := fun W o hW => bstep' (bstep' HBF.out hW) (below1 W o)
        have HCK : Hid (∀ W, Below W1.heap.size W1 W → W.cell? ⟨wr.heap.size, 0, none⟩ = some (.int .i64 6) ∧ W.cell? ⟨wr.heap.size, 1, none⟩ = some (.int .i64 d) ∧ W.cell? ⟨wr.heap.size, 2, none⟩ = some (.int .i64 t) ∧ W.cell? ⟨wr.heap.size, 3, none⟩ = some (.int .i64 x) ∧ W.cell? ⟨wr.heap.size, 4, none⟩ = some (.int .i64 y) ∧ W.cell? ⟨wr.heap.size, 5, none⟩ = some (.int .i64 n)) := fun W hW => HCL.out W (HCW.out _ _ _ _ _ (Sep.below HSF.out hW))
        have k9 := HCK.out _ (Below.refl _ _)
        obtain ⟨k0, k1, k2, k3, k4, k5⟩ := k9
        have HST : Hid (∀ W, Calls Try.prog 37 #[.int .i64 6] W fun e w' => e = .returned (.bool false) ∧ w' = W) := fun W => l9Sets_any _ W
        have HL : Hid (∀ W a b, Below W1.heap.size W1 W → Calls Try.prog 56 #[.int .i64 a, .int .i64 b] W fun e w' => e = .returned (.agg #[.int .i64 a, .int .i64 b, .slice none 0 0]) ∧ Below W1.heap.size W1 w') := fun W a b hW => (l3_any a b W).mono fun e w' ⟨h, hb⟩ => ⟨h, bstep' hW hb⟩
        replace HC : Hid (codeL (xs.take (k + 1)) = acc ++ [(2, x), (12, 0)]) := by show _ = _; rw [HC.out]; simp [codeF, bodyF, setsB, inB]
        go_upto_region 4 with fail
        try rw [HW1.out]
        go_wp2_with (first | (go_at_call 56; refine (HL.out _ _ _ (by first | exact hb2 | exact Below.refl _ _ | exact below_drewN (Below.refl _ _) _ | exact (Below.refl _ _).drew)).mono ?_; rintro e w2 ⟨rfl, hb2⟩) | (at_builtin; refine wpList_append_sep eltStep rfl _ _ rfl w.heap.size [cellOR 49 6 wr.heap.size [.int .i64 6, .int .i64 d, .int .i64 t, .int .i64 x, .int .i64 y, .int .i64 n]] (HSB.out _ hb2 _) rfl (News.fresh w2 [.int .i64 2, .int .i64 x, .slice none 0 0, .int .i64 12, .int .i64 0, .slice none 0 0] 58 w2.heap.size 2 3 rfl rfl (by simp [Value.oneCell'])) rfl (by omega) (HZB.out _ _ hb2).size ?_))
        intro va9 vc9 w9 hs9 hb9 hg9
        have HS9 := hid hs9
        have HB9 := hid ((HZB.out _ _ hb2).trans hb9)
        clear hs9 hb9 hg9
        have q9 := HCL.out _ (HCW.out _ _ _ _ _ HS9.out)
        obtain ⟨q0, -, q2, -, -, -⟩ := q9
        go_wp2_with (first | (go_at_call 37; refine (HST.out _).mono ?_; rintro e w' ⟨rfl, rfl⟩))
        have HSE := hid (HCR.out _ _ _ _ _ HS9.out)
        have HBE := hid HB9.out
        go_wp2
        go_roundw
        case rel =>
          refine ⟨k + 1, va9, vc9, by go_num, by omega, ?_, ?_, HBE.out⟩
          · rw [HC.out]; simp
          · show Sep _ _ _
            rw [HC.out]
            have h9 := HSE.out
            simpa [flatN] using h9
        case measure => simp [intOf]; omega
      cases hs : setsB p with
      | true =>
        replace HC : Hid (codeL (xs.take (k + 1)) = acc ++ [(2, x), (3, t)]) := by show _ = _; rw [HC.out]; simp [codeF, bodyF, hs, h1, h3, h4, h5, h6]
        have HSB : Hid (∀ W, Below W1.heap.size W1 W → ∀ o, Sep (W.alloc o) w.heap.size ([cellOR 49 6 wr.heap.size [.int .i64 p, .int .i64 d, .int .i64 t, .int .i64 x, .int .i64 y, .int .i64 n]] ++ ⟨58, 3, .slice va acc.length vc, acc.length, flatN acc⟩ :: [])) := fun W hW o => Sep.below (Sep.below HSF.out hW) (below1 W o)
        have HZB : Hid (∀ W o, Below W1.heap.size W1 W → Below w.heap.size w (W.alloc o)) := fun W o hW => bstep' (bstep' HBF.out hW) (below1 W o)
        have HCK : Hid (∀ W, Below W1.heap.size W1 W → W.cell? ⟨wr.heap.size, 0, none⟩ = some (.int .i64 p) ∧ W.cell? ⟨wr.heap.size, 1, none⟩ = some (.int .i64 d) ∧ W.cell? ⟨wr.heap.size, 2, none⟩ = some (.int .i64 t) ∧ W.cell? ⟨wr.heap.size, 3, none⟩ = some (.int .i64 x) ∧ W.cell? ⟨wr.heap.size, 4, none⟩ = some (.int .i64 y) ∧ W.cell? ⟨wr.heap.size, 5, none⟩ = some (.int .i64 n)) := fun W hW => HCL.out W (HCW.out _ _ _ _ _ (Sep.below HSF.out hW))
        have k9 := HCK.out _ (Below.refl _ _)
        obtain ⟨k0, k1, k2, k3, k4, k5⟩ := k9
        have HST : Hid (∀ W, Calls Try.prog 37 #[.int .i64 p] W fun e w' => e = .returned (.bool true) ∧ w' = W) := fun W => by rw [← hs]; exact l9Sets_any _ W
        have HL : Hid (∀ W a b, Below W1.heap.size W1 W → Calls Try.prog 56 #[.int .i64 a, .int .i64 b] W fun e w' => e = .returned (.agg #[.int .i64 a, .int .i64 b, .slice none 0 0]) ∧ Below W1.heap.size W1 w') := fun W a b hW => (l3_any a b W).mono fun e w' ⟨h, hb⟩ => ⟨h, bstep' hW hb⟩
        have e1 : (p == 1) = false := by simp [h1]
        have e3 : (p == 3) = false := by simp [h3]
        have e4 : (p == 4) = false := by simp [h4]
        have e5 : (p == 5) = false := by simp [h5]
        have e6 : (p == 6) = false := by simp [h6]
        go_upto_region 4 with fail
        try rw [HW1.out]
        go_wp2_with (first | (go_at_call 56; refine (HL.out _ _ _ (by first | exact hb2 | exact Below.refl _ _ | exact below_drewN (Below.refl _ _) _ | exact (Below.refl _ _).drew)).mono ?_; rintro e w2 ⟨rfl, hb2⟩) | (at_builtin; refine wpList_append_sep eltStep rfl _ _ rfl w.heap.size [cellOR 49 6 wr.heap.size [.int .i64 p, .int .i64 d, .int .i64 t, .int .i64 x, .int .i64 y, .int .i64 n]] (HSB.out _ hb2 _) rfl (News.fresh w2 [.int .i64 2, .int .i64 x, .slice none 0 0] 58 w2.heap.size 1 3 rfl rfl (by simp [Value.oneCell'])) rfl (by omega) (HZB.out _ _ hb2).size ?_))
        intro va9 vc9 w9 hs9 hb9 hg9
        have HS9 := hid hs9
        have HB9 := hid ((HZB.out _ _ hb2).trans hb9)
        clear hs9 hb9 hg9
        have q9 := HCL.out _ (HCW.out _ _ _ _ _ HS9.out)
        obtain ⟨q0, -, q2, -, -, -⟩ := q9
        go_wp2_with (first | (go_at_call 37; refine (HST.out _).mono ?_; rintro e w' ⟨rfl, rfl⟩) | (go_at_call 56; refine (l3_any _ _ _).mono ?_; rintro e w10 ⟨rfl, hb10⟩; have hsA := Sep.below (Sep.below HS9.out hb10) (below1 w10 (.cells #[.int .i64 3, .int .i64 t, .slice none 0 0] 58)); have hbA := bstep' (bstep' HB9.out hb10) (below1 w10 (.cells #[.int .i64 3, .int .i64 t, .slice none 0 0] 58))) | (at_builtin; refine wpList_append_sep eltStep rfl _ _ rfl w.heap.size [cellOR 49 6 wr.heap.size [.int .i64 p, .int .i64 d, .int .i64 t, .int .i64 x, .int .i64 y, .int .i64 n]] hsA rfl (News.fresh w10 [.int .i64 3, .int .i64 t, .slice none 0 0] 58 w10.heap.size 1 3 rfl rfl (by simp [Value.oneCell'])) rfl (by omega) hbA.size ?_))
        intro va11 vc11 w11 hs11 hb11 hg11
        have HSE := hid (HCR.out _ _ _ _ _ hs11)
        have HBE := hid (hbA.trans hb11)
        clear hsA hbA hs11 hb11 hg11 hb10 HS9 HB9
        go_wp2
        go_roundw
        case rel =>
          refine ⟨k + 1, va11, vc11, by go_num, by omega, ?_, ?_, HBE.out⟩
          · rw [HC.out]; simp
          · show Sep _ _ _
            rw [HC.out]
            have h9 := HSE.out
            simpa [flatN] using h9
        case measure => simp [intOf]; omega
      | false =>
        replace HC : Hid (codeL (xs.take (k + 1)) = acc ++ [(2, x)]) := by show _ = _; rw [HC.out]; simp [codeF, bodyF, hs, h1, h3, h4, h5, h6]
        have HSB : Hid (∀ W, Below W1.heap.size W1 W → ∀ o, Sep (W.alloc o) w.heap.size ([cellOR 49 6 wr.heap.size [.int .i64 p, .int .i64 d, .int .i64 t, .int .i64 x, .int .i64 y, .int .i64 n]] ++ ⟨58, 3, .slice va acc.length vc, acc.length, flatN acc⟩ :: [])) := fun W hW o => Sep.below (Sep.below HSF.out hW) (below1 W o)
        have HZB : Hid (∀ W o, Below W1.heap.size W1 W → Below w.heap.size w (W.alloc o)) := fun W o hW => bstep' (bstep' HBF.out hW) (below1 W o)
        have HCK : Hid (∀ W, Below W1.heap.size W1 W → W.cell? ⟨wr.heap.size, 0, none⟩ = some (.int .i64 p) ∧ W.cell? ⟨wr.heap.size, 1, none⟩ = some (.int .i64 d) ∧ W.cell? ⟨wr.heap.size, 2, none⟩ = some (.int .i64 t) ∧ W.cell? ⟨wr.heap.size, 3, none⟩ = some (.int .i64 x) ∧ W.cell? ⟨wr.heap.size, 4, none⟩ = some (.int .i64 y) ∧ W.cell? ⟨wr.heap.size, 5, none⟩ = some (.int .i64 n)) := fun W hW => HCL.out W (HCW.out _ _ _ _ _ (Sep.below HSF.out hW))
        have k9 := HCK.out _ (Below.refl _ _)
        obtain ⟨k0, k1, k2, k3, k4, k5⟩ := k9
        have HST : Hid (∀ W, Calls Try.prog 37 #[.int .i64 p] W fun e w' => e = .returned (.bool false) ∧ w' = W) := fun W => by rw [← hs]; exact l9Sets_any _ W
        have HL : Hid (∀ W a b, Below W1.heap.size W1 W → Calls Try.prog 56 #[.int .i64 a, .int .i64 b] W fun e w' => e = .returned (.agg #[.int .i64 a, .int .i64 b, .slice none 0 0]) ∧ Below W1.heap.size W1 w') := fun W a b hW => (l3_any a b W).mono fun e w' ⟨h, hb⟩ => ⟨h, bstep' hW hb⟩
        have e1 : (p == 1) = false := by simp [h1]
        have e3 : (p == 3) = false := by simp [h3]
        have e4 : (p == 4) = false := by simp [h4]
        have e5 : (p == 5) = false := by simp [h5]
        have e6 : (p == 6) = false := by simp [h6]
        go_upto_region 4 with fail
        try rw [HW1.out]
        go_wp2_with (first | (go_at_call 56; refine (HL.out _ _ _ (by first | exact hb2 | exact Below.refl _ _ | exact below_drewN (Below.refl _ _) _ | exact (Below.refl _ _).drew)).mono ?_; rintro e w2 ⟨rfl, hb2⟩) | (at_builtin; refine wpList_append_sep eltStep rfl _ _ rfl w.heap.size [cellOR 49 6 wr.heap.size [.int .i64 p, .int .i64 d, .int .i64 t, .int .i64 x, .int .i64 y, .int .i64 n]] (HSB.out _ hb2 _) rfl (News.fresh w2 [.int .i64 2, .int .i64 x, .slice none 0 0] 58 w2.heap.size 1 3 rfl rfl (by simp [Value.oneCell'])) rfl (by omega) (HZB.out _ _ hb2).size ?_))
        intro va9 vc9 w9 hs9 hb9 hg9
        have HS9 := hid hs9
        have HB9 := hid ((HZB.out _ _ hb2).trans hb9)
        clear hs9 hb9 hg9
        have q9 := HCL.out _ (HCW.out _ _ _ _ _ HS9.out)
        obtain ⟨q0, -, q2, -, -, -⟩ := q9
        go_wp2_with (first | (go_at_call 37; refine (HST.out _).mono ?_; rintro e w' ⟨rfl, rfl⟩))
        have HSE := hid (HCR.out _ _ _ _ _ HS9.out)
        have HBE := hid HB9.out
        go_wp2
        go_roundw
        case rel =>
          refine ⟨k + 1, va9, vc9, by go_num, by omega, ?_, ?_, HBE.out⟩
          · rw [HC.out]; simp
          · show Sep _ _ _
            rw [HC.out]
            have h9 := HSE.out
            simpa [flatN] using h9
        case measure => simp [intOf]; omega
    · obtain rfl : k = xs.length := by omega
      rw [List.take_of_length_le (Nat.le_refl _)] at HS
      go_wp2
      go_ret
      refine ⟨va, vc, ?_, one_sep HS.out, HB.out⟩
      show Ending.returned (.slice va (codeL (xs.take xs.length)).length vc) = _
      rw [List.take_of_length_le (Nat.le_refl _)]
end Go.Proofs.Ytiaiaejijicddaa
