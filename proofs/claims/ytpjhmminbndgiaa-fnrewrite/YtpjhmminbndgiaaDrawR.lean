/- Rules as the model draws them. -/
import Derived.Test.YtpjhmminbndgiaaDraws
namespace Go.Proofs.Ytpjhmminbndgiaa
open Go.RowKit
set_option linter.unusedVariables false
set_option linter.unusedSimpArgs false
set_option maxHeartbeats 8000000
set_option maxRecDepth 100000

theorem eltRule : Elt 23 82 2 32 := by
  obtain ⟨i0, hi, hz0, hz1, hz2⟩ := info_parts info82
  exact ⟨i0, .agg #[.string ⟨#[]⟩, .string ⟨#[]⟩], Try.underlying23, hi, hz0, hz1, hz2, rfl, by omega, by omega⟩
/-- rules that were drawn so far: few, of few letters each, and owned -/
def Drawn (w : World) (B0 : Nat) (v : Value) (n : Nat) (xs : List RB) : Prop := n = xs.length ∧ Fit 100 xs ∧ Sep w B0 ([] ++ ⟨82, 2, v, n, flat xs⟩ :: [])
theorem Fit.snoc {n : Nat} {xs : List RB} {f t : ByteArray} (h : Fit n xs) (h1 : f.size ≤ n ∧ t.size ≤ n) : Fit n (xs ++ [(f, t)]) := by
  intro x hx
  rcases List.mem_append.1 hx with hx | hx
  · exact h x hx
  · simp at hx; subst hx; exact h1
/-- where a round stands: the box of the rule that is being drawn beside the rules drawn so far, the reader of choices, and that nothing else has turned -/
def RT (w W : World) (n0 B K b : Nat) (f t : ByteArray) (v : Value) (n : Nat) (xs : List RB) : Prop :=
  Sep W w.heap.size ([cellOR 82 2 b [.string f, .string t]] ++ ⟨82, 2, v, n, flat xs⟩ :: []) ∧ Cur W n0 B K ∧ w.grownBy W (some B) ∧ f.size ≤ 3 ∧ t.size ≤ 3 ∧ b ≠ B
theorem RT.first {w w4 : World} {n0 B K : Nat} {f t : ByteArray} {v : Value} {n : Nat} {xs : List RB} (hc : Cur w4 n0 B K) (hG : w.grownBy w4 (some B)) (hS : Sep w4 w.heap.size ([] ++ ⟨82, 2, v, n, flat xs⟩ :: [])) (hf : f.size ≤ 3) (ht : t.size ≤ 3) (hB : B < w4.heap.size) : RT w (w4.alloc (.cells #[.string f, .string t] 82)) n0 B K w4.heap.size f t v n xs :=
  ⟨Sep.add hS (below1 w4 _) (cellOR 82 2 w4.heap.size [.string f, .string t]) (cell_own (cs := #[.string f, .string t]) (heap_alloc_new _ _) rfl hG.size) (fun k hk => by simp [Value.ownBlock] at hk; omega), hc.far (World.grownBy_alloc w4 _ none), grownBy_trans hG (World.grownBy_alloc w4 _ _), hf, ht, by omega⟩
theorem RT.cells {w W : World} {n0 B K b : Nat} {f t : ByteArray} {v : Value} {n : Nat} {xs : List RB} (h : RT w W n0 B K b f t v n xs) : W.cell? ⟨b, 0, none⟩ = some (.string f) ∧ W.cell? ⟨b, 1, none⟩ = some (.string t) :=
  ⟨h.1.cell (x := cellOR 82 2 b [.string f, .string t]) (by simp) rfl (j := 0) rfl, h.1.cell (x := cellOR 82 2 b [.string f, .string t]) (by simp) rfl (j := 1) rfl⟩
theorem RT.frozen {w W : World} {n0 B K b : Nat} {f t : ByteArray} {v : Value} {n : Nat} {xs : List RB} (h : RT w W n0 B K b f t v n xs) : W.frozen? ⟨b, 0, none⟩ = false ∧ W.frozen? ⟨b, 1, none⟩ = false :=
  ⟨h.1.frozen (x := cellOR 82 2 b [.string f, .string t]) (by simp) rfl 0, h.1.frozen (x := cellOR 82 2 b [.string f, .string t]) (by simp) rfl 1⟩
theorem RT.far {w W W' : World} {n0 B K K' b : Nat} {f t : ByteArray} {v : Value} {n : Nat} {xs : List RB} (h : RT w W n0 B K b f t v n xs) (hB : B < w.heap.size) (hc : Cur W' n0 B K') (hg : W.grownBy W' (some B)) : RT w W' n0 B K' b f t v n xs :=
  ⟨h.1.far hg hB, hc, grownBy_trans h.2.2.1 hg, h.2.2.2⟩
theorem Sep.far2 {w w' : World} {B0 : Nat} {l : List OR} (h : Sep w B0 l) (hg : w.grownBy w' none) : Sep w' B0 l :=
  ⟨fun x hx => (h.1 x hx).kept hg (by cases e : x.v.ownBlock with | none => exact .inl rfl | some k => exact .inr (by simp)), h.2⟩
theorem RT.idle {w W : World} {n0 B K b : Nat} {f t : ByteArray} {v : Value} {n : Nat} {xs : List RB} (h : RT w W n0 B K b f t v n xs) (hn : n = xs.length) (hx : Fit 100 xs) : Drawn W w.heap.size v n xs ∧ Cur W n0 B K ∧ w.grownBy W (some B) :=
  ⟨⟨hn, hx, h.1.tail⟩, h.2.1, h.2.2.1⟩
theorem grown_below {w W W9 : World} {B : Nat} (hG : w.grownBy W (some B)) (hb : Below w.heap.size W W9) : w.grownBy W9 (some B) :=
  ⟨hb.os.trans hG.os, hb.tape.trans hG.tape, hb.output.trans hG.output, Nat.le_trans hG.size hb.size, fun k hk hn => (hb.block k hk).trans (hG.block k hk hn)⟩
theorem RT.done {w W W9 : World} {n0 B K b : Nat} {f t : ByteArray} {v : Value} {n : Nat} {v' : Value} {xs : List RB} (hS : Sep W w.heap.size ([cellOR 82 2 b [.string f, .string t]] ++ ⟨82, 2, v, n, flat xs⟩ :: [])) (hC : Cur W n0 B K) (hG : w.grownBy W (some B)) (hb : Below w.heap.size W W9) (hB : B < w.heap.size)
    (hg : W.grownBy W9 v.ownBlock) (h9 : Sep W9 w.heap.size ([cellOR 82 2 b [.string f, .string t]] ++ ⟨82, 2, v', n + 1, flat xs ++ [.string f, .string t]⟩ :: [])) (hn : n = xs.length) (hx : Fit 100 xs) (hf : f.size ≤ 3 ∧ t.size ≤ 3) : Drawn W9 w.heap.size v' (n + 1) (xs ++ [(f, t)]) ∧ Cur W9 n0 B K ∧ w.grownBy W9 (some B) := by
  have e : flat (xs ++ [(f, t)]) = flat xs ++ [.string f, .string t] := by simp [flat]
  refine ⟨⟨by simp [hn], hx.snoc (by omega), ?_⟩, ?_, ?_⟩
  · rw [e]; exact h9.tail
  · refine hC.grown hg (fun r er => ?_)
    have := hS.size (x := ⟨82, 2, v, n, flat xs⟩) (by simp) (g := r) er
    have := hC.1
    omega
  · exact grown_below hG hb
theorem RT.swap {w W : World} {n0 B K b : Nat} {f t : ByteArray} {v : Value} {n : Nat} {xs : List RB} (h : RT w W n0 B K b f t v n xs) (hB : B < w.heap.size) : RT w ((W.setCell ⟨b, 0, none⟩ (.string t)).setCell ⟨b, 1, none⟩ (.string f)) n0 B K b t f v n xs := by
  obtain ⟨hS, hC, hG, hf, ht, hbB⟩ := h
  obtain ⟨s1, b1⟩ := Sep.put [] hS 0 (.string t)
  obtain ⟨s2, b2⟩ := Sep.put [] s1 1 (.string f)
  have hbw := (hS.size (x := cellOR 82 2 b [.string f, .string t]) (by simp) (g := b) rfl).1
  have := hC.1
  exact ⟨s2, (hC.grown (grownBy_set W b 0 (.string t)) (fun r er => by cases er; omega)).grown (grownBy_set _ b 1 (.string f)) (fun r er => by cases er; omega), grown_below hG (b1.trans b2), ht, hf, hbB⟩
theorem slice_at {w : World} {B n c : Nat} {e : TypeId} {size : Nat} {va : Option Addr} {xs : List Value} (h : w.ownsRow B e size (.slice va n c) n xs) (hn : 0 < n) : ∃ g, va = some ⟨g, 0, none⟩ := by
  rcases h.2 with ⟨h1, h0⟩ | ⟨g, cap, cur, h1, _⟩
  · omega
  · cases h1; exact ⟨g, rfl⟩
theorem drawn_first {w W : World} {n0 B K g c n : Nat} {xs : List RB} (hn : n = xs.length) (hx : Fit 100 xs) (h0 : 0 < n) (hS : Sep W w.heap.size ([] ++ ⟨82, 2, .slice (some ⟨g, 0, none⟩) n c, n, flat xs⟩ :: [])) (hC : Cur W n0 B K) (hG : w.grownBy W (some B)) (hB : B < w.heap.size) (x : ByteArray) (hs : x.size ≤ 100) :
    Drawn (W.setCell ⟨g, 1, none⟩ (.string x)) w.heap.size (.slice (some ⟨g, 0, none⟩) n c) n (match xs with | [] => [] | y :: r => (y.1, x) :: r) ∧ Cur (W.setCell ⟨g, 1, none⟩ (.string x)) n0 B K ∧ w.grownBy (W.setCell ⟨g, 1, none⟩ (.string x)) (some B) := by
  have hs1 := Sep.store [] hS 1 (.string x)
  have hgw := (hS.size (x := ⟨82, 2, .slice (some ⟨g, 0, none⟩) n c, n, flat xs⟩) (by simp) (g := g) rfl).1
  have := hC.1
  match xs, hn with
  | [], hn => simp at hn; omega
  | y :: r, hn =>
    refine ⟨⟨by simpa using hn, ?_, ?_⟩, hC.grown (grownBy_set W g 1 _) (fun q e => by cases e; omega), grown_below hG ((Below.refl _ W).setCell (p := ⟨g, 1, none⟩) hgw _)⟩
    · intro z hz
      rcases List.mem_cons.1 hz with rfl | hz
      · exact ⟨(hx y (by simp)).1, hs⟩
      · exact hx z (by simp [hz])
    · simpa [flat] using hs1
theorem own_three (w : World) (a b c d e f : ByteArray) : (w.alloc (.cells #[.string a, .string b, .string c, .string d, .string e, .string f] 82)).ownsRow w.heap.size 82 2 (.slice (some ⟨w.heap.size, 0, none⟩) 3 3) 3 (flat [(a, b), (c, d), (e, f)]) :=
  ⟨rfl, .inr ⟨w.heap.size, 3, _, rfl, Nat.le_refl _, heap_alloc_new _ _, by omega, by unfold maxLen; omega, by simp, by simp [flat]⟩⟩
theorem rules_any (n0 B K : Nat) (w : World) (h : Cur w n0 B K) (hK : K ≤ 600000) :
    Calls Try.prog 55 #[.pointer (some ⟨B, 0, none⟩)] w fun e w' => (∃ v n xs, e = .returned v ∧ Drawn w' w.heap.size v n xs ∧ n ≤ 4) ∧ Cur w' n0 B (K + 2000) ∧ w.grownBy w' (some B) := by
  have hlt := h.lt
  go_enter Try.func55, Try.ntmps55
  go_wp2_with fail
  refine (pick_any n0 B K _ _ h (by omega) (by omega) (by omega)).mono ?_
  rintro e w1 ⟨r, rfl, hr, hc1, hg1⟩
  by_cases hr0 : r = 0
  · subst hr0
    go_wp2
    go_ret
    refine ⟨⟨_, 3, [(⟨#[97, 97]⟩, ⟨#[]⟩), (⟨#[98, 97]⟩, ⟨#[97, 98]⟩), (⟨#[98, 98, 98]⟩, ⟨#[]⟩)], rfl, ⟨rfl, ?_, ?_⟩, by omega⟩, (hc1.far (World.grownBy_alloc w1 _ none)).more (by omega), grownBy_trans hg1 (World.grownBy_alloc w1 _ _)⟩
    · intro x hx; simp at hx; rcases hx with rfl | rfl | rfl <;> decide
    · exact sep_one (owns_mono (own_three w1 _ _ _ _ _ _) hg1.size)
  · by_cases hr1 : r = 1
    · subst hr1
      go_wp2
      go_ret
      refine ⟨⟨_, 3, [(⟨#[98, 97]⟩, ⟨#[97, 98]⟩), (⟨#[99, 98]⟩, ⟨#[98, 99]⟩), (⟨#[99, 97]⟩, ⟨#[97, 99]⟩)], rfl, ⟨rfl, ?_, ?_⟩, by omega⟩, (hc1.far (World.grownBy_alloc w1 _ none)).more (by omega), grownBy_trans hg1 (World.grownBy_alloc w1 _ _)⟩
      · intro x hx; simp at hx; rcases hx with rfl | rfl | rfl <;> decide
      · exact sep_one (owns_mono (own_three w1 _ _ _ _ _ _) hg1.size)
    · go_wp2_with fail
      refine (pick_any n0 B _ _ _ hc1 (by omega) (by omega) (by omega)).mono ?_
      rintro e w2 ⟨r2, rfl, hr2, hc2, hg2⟩
      obtain ⟨q, rfl⟩ : ∃ q : Nat, r2 = (q : Int) := ⟨r2.toNat, by omega⟩
      have hG2 := grownBy_trans hg1 hg2
      have hq : q < 4 := by omega
      clear hr hr0 hr1 hr2 hc1 hg1 hg2
      go_wp2
      go_loopw [3, 4] (fun t3 t4 wr => ∃ (j n : Nat) (xs : List RB), t4 = .int .i64 (j : Int) ∧ j + n ≤ 4 ∧ Drawn wr w.heap.size t3 n xs ∧ (∃ i, j + i = 4 ∧ Cur wr n0 B (K + 4 + 300 * i)) ∧ w.grownBy wr (some B)) (fun _ t4 _ => (intOf t4).toNat)
      case atStart => exact ⟨q, 0, [], rfl, by omega, ⟨rfl, by simp [Fit], sep_one (World.ownsRow_nil _ _ _ _)⟩, ⟨4 - q, by omega, hc2.more (by omega)⟩, hG2⟩
      case round =>
        clear hc2 hG2
        obtain ⟨V0, rfl⟩ : ∃ V0, V0 = wr := ⟨_, rfl⟩
        obtain ⟨j, n, xs, rfl, hjn, hD, ⟨i, hji, hC⟩, hG⟩ := hrel
        by_cases hj : 0 < j
        · go_wp2_with fail
          refine (abText_any n0 B _ 3 _ hC (by omega) (by omega)).mono ?_
          rintro e w3 ⟨⟨f, rfl, hf⟩, hc3, hg3⟩
          go_wp2_with fail
          refine (abText_any n0 B _ 3 _ hc3 (by omega) (by omega)).mono ?_
          rintro e w4 ⟨⟨t, rfl, ht⟩, hc4, hg4⟩
          have hG4 := grownBy_trans (grownBy_trans hG hg3) hg4
          have hS4 := (hD.2.2.far hg3 hlt).far hg4 hlt
          have hD1 := hD.1
          have hD2 := hD.2.1
          clear hD hG hC hc3 hg3 hg4
          have hgA := World.grownBy_alloc w4 (.cells #[.string f, .string t] 82) none
          have HW := hid (RT.first hc4 hG4 hS4 hf ht (by have := hG4.size; have := hlt; omega))
          clear hc4 hG4 hS4
          go_wp2_with fail
          refine (sShort_any t f _ (by omega) (by omega)).mono ?_
          rintro e w5 ⟨rfl, rfl⟩
          obtain ⟨W, hW⟩ : ∃ W, W = w4.alloc (.cells #[.string f, .string t] 82) := ⟨_, rfl⟩
          obtain ⟨b, hb⟩ : ∃ b, b = w4.heap.size := ⟨_, rfl⟩
          rw [← hW, ← hb] at HW ⊢
          clear hW hb hgA
          generalize slB (Bt t) (Bt f) = sb
          have HXN := hid (And.intro hD1 hD2)
          clear hD1 hD2
          cases sb with
          | true =>
            obtain ⟨F, hF⟩ : ∃ F, F = f := ⟨_, rfl⟩
            obtain ⟨T, hT⟩ : ∃ T, T = t := ⟨_, rfl⟩
            rw [← hF, ← hT] at HW ⊢
            have HR := HW
            clear HW hF hT
            obtain ⟨hd0, hd1⟩ := HR.out.cells
            by_cases hft : F.toList = T.toList
            · go_wp2_with fail
              refine (one_any n0 B _ 12 _ HR.out.2.1 (by omega) (by omega) (by omega)).mono ?_
              rintro e W1 ⟨r1, rfl, hcW, hgW⟩
              replace HR := hid (HR.out.far hlt hcW hgW)
              clear hcW hgW hd0 hd1
              obtain ⟨hd0, hd1⟩ := HR.out.cells
              replace HR := hid (show RT w W1 n0 B _ b F T _ n xs from HR.out)
              obtain ⟨W, rfl⟩ : ∃ W, W = W1 := ⟨_, rfl⟩
              cases r1 with
              | true =>
                have hL := World.grownBy_alloc W (.cells #[.string F, .string T] 82) none
                have hRT := HR.out
                have HSA := hid (hRT.1.far2 hL)
                have HNW := hid (News.two W (.string F) (.string T) 82 _ rfl rfl rfl)
                have HCA := hid (hRT.2.1.far hL)
                have HGA := hid (grownBy_trans hRT.2.2.1 (World.grownBy_alloc W (.cells #[.string F, .string T] 82) (some B)))
                have HSZ := hid (And.intro hRT.2.2.2.1 hRT.2.2.2.2.1)
                have hwz : w.heap.size ≤ W.heap.size := hRT.2.2.1.size
                clear hL hRT
                go_wp2_with (at_builtin; refine wpList_append_sep eltRule rfl _ _ rfl w.heap.size [cellOR 82 2 b [.string F, .string T]] HSA.out rfl HNW.out rfl (by omega) (Nat.le_trans hwz (by simp)) ?_)
                intro va vc W9 hs9 hb9 hg9
                have HS9 := hid hs9
                have HE := hid (RT.done HSA.out HCA.out HGA.out hb9 hlt hg9 hs9 HXN.out.1 HXN.out.2 HSZ.out)
                clear hs9 hb9 hg9
                go_wp2
                go_roundw
                case rel => exact ⟨j - 1, n + 1, xs ++ [(F, T)], by go_num, by omega, HE.out.1, ⟨i + 1, by omega, HE.out.2.1.more (by omega)⟩, HE.out.2.2⟩
                case measure => simp [intOf]; omega
              | false =>
                have HE := hid (RT.idle HR.out HXN.out.1 HXN.out.2)
                go_wp2
                go_roundw
                case rel => exact ⟨j - 1, n, xs, by go_num, by omega, HE.out.1, ⟨i + 1, by omega, HE.out.2.1.more (by omega)⟩, HE.out.2.2⟩
                case measure => simp [intOf]; omega
            · have hL := World.grownBy_alloc W (.cells #[.string F, .string T] 82) none
              have hRT := HR.out
              have HSA := hid (hRT.1.far2 hL)
              have HNW := hid (News.two W (.string F) (.string T) 82 _ rfl rfl rfl)
              have HCA := hid (hRT.2.1.far hL)
              have HGA := hid (grownBy_trans hRT.2.2.1 (World.grownBy_alloc W (.cells #[.string F, .string T] 82) (some B)))
              have HSZ := hid (And.intro hRT.2.2.2.1 hRT.2.2.2.2.1)
              have hwz : w.heap.size ≤ W.heap.size := hRT.2.2.1.size
              clear hL hRT
              go_wp2_with (at_builtin; refine wpList_append_sep eltRule rfl _ _ rfl w.heap.size [cellOR 82 2 b [.string F, .string T]] HSA.out rfl HNW.out rfl (by omega) (Nat.le_trans hwz (by simp)) ?_)
              intro va vc W9 hs9 hb9 hg9
              have HS9 := hid hs9
              have HE := hid (RT.done HSA.out HCA.out HGA.out hb9 hlt hg9 hs9 HXN.out.1 HXN.out.2 HSZ.out)
              clear hs9 hb9 hg9
              go_wp2
              go_roundw
              case rel => exact ⟨j - 1, n + 1, xs ++ [(F, T)], by go_num, by omega, HE.out.1, ⟨i + 1, by omega, HE.out.2.1.more (by omega)⟩, HE.out.2.2⟩
              case measure => simp [intOf]; omega
          | false =>
            obtain ⟨hd0, hd1⟩ := HW.out.cells
            go_wp2_with fail
            refine (one_any n0 B _ 12 _ HW.out.2.1 (by omega) (by omega) (by omega)).mono ?_
            rintro e W1 ⟨r0, rfl, hcW, hgW⟩
            have HV := hid (HW.out.far hlt hcW hgW)
            clear hcW hgW hd0 hd1 HW
            cases r0 with
            | true =>
              obtain ⟨F, hF⟩ : ∃ F, F = f := ⟨_, rfl⟩
              obtain ⟨T, hT⟩ : ∃ T, T = t := ⟨_, rfl⟩
              obtain ⟨W, hW⟩ : ∃ W, W = W1 := ⟨_, rfl⟩
              rw [← hF, ← hT, ← hW] at HV
              rw [← hF, ← hT, ← hW]
              have HR := HV
              clear HV hF hT hW
              obtain ⟨hd0, hd1⟩ := HR.out.cells
              by_cases hft : F.toList = T.toList
              · go_wp2_with fail
                refine (one_any n0 B _ 12 _ HR.out.2.1 (by omega) (by omega) (by omega)).mono ?_
                rintro e W1 ⟨r1, rfl, hcW, hgW⟩
                replace HR := hid (HR.out.far hlt hcW hgW)
                clear hcW hgW hd0 hd1
                obtain ⟨hd0, hd1⟩ := HR.out.cells
                replace HR := hid (show RT w W1 n0 B _ b F T _ n xs from HR.out)
                obtain ⟨W, rfl⟩ : ∃ W, W = W1 := ⟨_, rfl⟩
                cases r1 with
                | true =>
                  have hL := World.grownBy_alloc W (.cells #[.string F, .string T] 82) none
                  have hRT := HR.out
                  have HSA := hid (hRT.1.far2 hL)
                  have HNW := hid (News.two W (.string F) (.string T) 82 _ rfl rfl rfl)
                  have HCA := hid (hRT.2.1.far hL)
                  have HGA := hid (grownBy_trans hRT.2.2.1 (World.grownBy_alloc W (.cells #[.string F, .string T] 82) (some B)))
                  have HSZ := hid (And.intro hRT.2.2.2.1 hRT.2.2.2.2.1)
                  have hwz : w.heap.size ≤ W.heap.size := hRT.2.2.1.size
                  clear hL hRT
                  go_wp2_with (at_builtin; refine wpList_append_sep eltRule rfl _ _ rfl w.heap.size [cellOR 82 2 b [.string F, .string T]] HSA.out rfl HNW.out rfl (by omega) (Nat.le_trans hwz (by simp)) ?_)
                  intro va vc W9 hs9 hb9 hg9
                  have HS9 := hid hs9
                  have HE := hid (RT.done HSA.out HCA.out HGA.out hb9 hlt hg9 hs9 HXN.out.1 HXN.out.2 HSZ.out)
                  clear hs9 hb9 hg9
                  go_wp2
                  go_roundw
                  case rel => exact ⟨j - 1, n + 1, xs ++ [(F, T)], by go_num, by omega, HE.out.1, ⟨i + 1, by omega, HE.out.2.1.more (by omega)⟩, HE.out.2.2⟩
                  case measure => simp [intOf]; omega
                | false =>
                  have HE := hid (RT.idle HR.out HXN.out.1 HXN.out.2)
                  go_wp2
                  go_roundw
                  case rel => exact ⟨j - 1, n, xs, by go_num, by omega, HE.out.1, ⟨i + 1, by omega, HE.out.2.1.more (by omega)⟩, HE.out.2.2⟩
                  case measure => simp [intOf]; omega
              · have hL := World.grownBy_alloc W (.cells #[.string F, .string T] 82) none
                have hRT := HR.out
                have HSA := hid (hRT.1.far2 hL)
                have HNW := hid (News.two W (.string F) (.string T) 82 _ rfl rfl rfl)
                have HCA := hid (hRT.2.1.far hL)
                have HGA := hid (grownBy_trans hRT.2.2.1 (World.grownBy_alloc W (.cells #[.string F, .string T] 82) (some B)))
                have HSZ := hid (And.intro hRT.2.2.2.1 hRT.2.2.2.2.1)
                have hwz : w.heap.size ≤ W.heap.size := hRT.2.2.1.size
                clear hL hRT
                go_wp2_with (at_builtin; refine wpList_append_sep eltRule rfl _ _ rfl w.heap.size [cellOR 82 2 b [.string F, .string T]] HSA.out rfl HNW.out rfl (by omega) (Nat.le_trans hwz (by simp)) ?_)
                intro va vc W9 hs9 hb9 hg9
                have HS9 := hid hs9
                have HE := hid (RT.done HSA.out HCA.out HGA.out hb9 hlt hg9 hs9 HXN.out.1 HXN.out.2 HSZ.out)
                clear hs9 hb9 hg9
                go_wp2
                go_roundw
                case rel => exact ⟨j - 1, n + 1, xs ++ [(F, T)], by go_num, by omega, HE.out.1, ⟨i + 1, by omega, HE.out.2.1.more (by omega)⟩, HE.out.2.2⟩
                case measure => simp [intOf]; omega
            | false =>
              obtain ⟨hd0, hd1⟩ := HV.out.cells
              obtain ⟨hz0, hz1⟩ := HV.out.frozen
              have HSW := hid (HV.out.swap hlt)
              have HR := HSW
              clear HSW
              by_cases hft : t.toList = f.toList
              · go_wp2_with fail
                refine (one_any n0 B _ 12 _ HR.out.2.1 (by omega) (by omega) (by omega)).mono ?_
                rintro e W2 ⟨r1, rfl, hcW, hgW⟩
                have HR2 := hid (HR.out.far hlt hcW hgW)
                clear hcW hgW hd0 hd1 HR hz0 hz1 HV
                have HR := HR2
                clear HR2
                obtain ⟨hd0, hd1⟩ := HR.out.cells
                cases r1 with
                | true =>
                  have hL := World.grownBy_alloc W2 (.cells #[.string t, .string f] 82) none
                  have hRT := HR.out
                  have HSA := hid (hRT.1.far2 hL)
                  have HNW := hid (News.two W2 (.string t) (.string f) 82 _ rfl rfl rfl)
                  have HCA := hid (hRT.2.1.far hL)
                  have HGA := hid (grownBy_trans hRT.2.2.1 (World.grownBy_alloc W2 (.cells #[.string t, .string f] 82) (some B)))
                  have HSZ := hid (And.intro hRT.2.2.2.1 hRT.2.2.2.2.1)
                  have hwz : w.heap.size ≤ (W2).heap.size := hRT.2.2.1.size
                  clear hL hRT
                  go_wp2_with (at_builtin; refine wpList_append_sep eltRule rfl _ _ rfl w.heap.size [cellOR 82 2 b [.string t, .string f]] HSA.out rfl HNW.out rfl (by omega) (Nat.le_trans hwz (by simp)) ?_)
                  intro va vc W9 hs9 hb9 hg9
                  have HS9 := hid hs9
                  have HE := hid (RT.done HSA.out HCA.out HGA.out hb9 hlt hg9 hs9 HXN.out.1 HXN.out.2 HSZ.out)
                  clear hs9 hb9 hg9
                  go_wp2
                  go_roundw
                  case rel => exact ⟨j - 1, n + 1, xs ++ [(t, f)], by go_num, by omega, HE.out.1, ⟨i + 1, by omega, HE.out.2.1.more (by omega)⟩, HE.out.2.2⟩
                  case measure => simp [intOf]; omega
                | false =>
                  have HE := hid (RT.idle HR.out HXN.out.1 HXN.out.2)
                  go_wp2
                  go_roundw
                  case rel => exact ⟨j - 1, n, xs, by go_num, by omega, HE.out.1, ⟨i + 1, by omega, HE.out.2.1.more (by omega)⟩, HE.out.2.2⟩
                  case measure => simp [intOf]; omega
              · have hL := World.grownBy_alloc ((W1.setCell ⟨b, 0, none⟩ (.string t)).setCell ⟨b, 1, none⟩ (.string f)) (.cells #[.string t, .string f] 82) none
                have hRT := HR.out
                have HSA := hid (hRT.1.far2 hL)
                have HNW := hid (News.two ((W1.setCell ⟨b, 0, none⟩ (.string t)).setCell ⟨b, 1, none⟩ (.string f)) (.string t) (.string f) 82 W1.heap.size (by simp) rfl rfl)
                have HCA := hid (hRT.2.1.far hL)
                have HGA := hid (grownBy_trans hRT.2.2.1 (World.grownBy_alloc ((W1.setCell ⟨b, 0, none⟩ (.string t)).setCell ⟨b, 1, none⟩ (.string f)) (.cells #[.string t, .string f] 82) (some B)))
                have HSZ := hid (And.intro hRT.2.2.2.1 hRT.2.2.2.2.1)
                have hwz : w.heap.size ≤ (((W1.setCell ⟨b, 0, none⟩ (.string t)).setCell ⟨b, 1, none⟩ (.string f))).heap.size := hRT.2.2.1.size
                clear hL hRT
                go_wp2_with (at_builtin; refine wpList_append_sep eltRule rfl _ _ rfl w.heap.size [cellOR 82 2 b [.string t, .string f]] HSA.out rfl HNW.out rfl (by omega) (Nat.le_trans hwz (by simp)) ?_)
                intro va vc W9 hs9 hb9 hg9
                have HS9 := hid hs9
                have HE := hid (RT.done HSA.out HCA.out HGA.out hb9 hlt hg9 hs9 HXN.out.1 HXN.out.2 HSZ.out)
                clear hs9 hb9 hg9
                go_wp2
                go_roundw
                case rel => exact ⟨j - 1, n + 1, xs ++ [(t, f)], by go_num, by omega, HE.out.1, ⟨i + 1, by omega, HE.out.2.1.more (by omega)⟩, HE.out.2.2⟩
                case measure => simp [intOf]; omega
        · obtain rfl : j = 0 := by omega
          have hn4 : n ≤ 4 := by omega
          clear hjn hj
          obtain ⟨va, vc, rfl⟩ := slice_of_owned (one_sep hD.2.2)
          have HC := hid hC
          have HG := hid hG
          have HD := hid hD
          have HW0 : Hid (w.heap.size ≤ V0.heap.size) := hG.size
          clear hC hG hD
          by_cases hn0 : 0 < n
          · go_wp2_with fail
            refine (one_any n0 B _ 30 _ HC.out (by omega) (by omega) (by omega)).mono ?_
            rintro e W1 ⟨r1, rfl, hcW, hgW⟩
            have HC1 := hid hcW
            have HG1 := hid (grownBy_trans HG.out hgW)
            have HD1 := hid (HD.out.2.2.far hgW hlt)
            clear hcW hgW
            cases r1 with
            | true =>
              have CO := hid (of_any n0 B _ W1.heap.size 2 [⟨#[101]⟩, ⟨#[97, 97, 97, 97, 97, 97, 97]⟩] _ (HC1.out.far (World.grownBy_alloc W1 (.cells #[.string ⟨#[101]⟩, .string ⟨#[97, 97, 97, 97, 97, 97, 97]⟩] 9) none)) (by omega) (by have := HG1.out.size; omega) (by simp) (by simp) (two_at W1 _ _))
              simp only [List.length_cons, List.length_nil, Nat.zero_add, Nat.reduceAdd] at CO
              go_wp2_with fail
              refine CO.out.mono ?_
              rintro e W2 ⟨⟨x, rfl, hx⟩, hcW, hgW⟩
              have hx1 : x.size ≤ 7 := by
                simp only [List.mem_cons, List.mem_nil_iff, or_false] at hx
                rcases hx with rfl | rfl <;> decide
              have hgA := World.grownBy_alloc W1 (.cells #[.string ⟨#[101]⟩, .string ⟨#[97, 97, 97, 97, 97, 97, 97]⟩] 9)
              have hs2 := (HD1.out.far2 (hgA none)).far hgW hlt
              have HG2 := hid (grownBy_trans (grownBy_trans HG1.out (hgA (some B))) hgW)
              have HC2 := hid hcW
              obtain ⟨g, rfl⟩ := slice_at (one_sep hs2) hn0
              have hc1 : ∃ u, W2.cell? ⟨g, 1, none⟩ = some u := by
                have hl : 1 < (flat xs).length := by rw [flat_length]; have := HD.out.1; omega
                exact ⟨_, hs2.cell (x := ⟨82, 2, .slice (some ⟨g, 0, none⟩) n vc, n, flat xs⟩) (by simp) rfl (j := 1) (List.getElem?_eq_getElem hl)⟩
              obtain ⟨u1, hc1⟩ := hc1
              have hz1 : W2.frozen? ⟨g, 1, none⟩ = false := hs2.frozen (x := ⟨82, 2, .slice (some ⟨g, 0, none⟩) n vc, n, flat xs⟩) (by simp) rfl 1
              have HE := hid (drawn_first HD.out.1 HD.out.2.1 hn0 hs2 HC2.out HG2.out hlt x (by omega))
              clear hs2 hcW hgW hgA hx CO HG1 HC1 HD1
              go_wp2
              go_ret
              exact ⟨⟨_, n, _, rfl, HE.out.1, by omega⟩, HE.out.2.1.more (by omega), HE.out.2.2⟩
            | false =>
              go_wp2
              go_ret
              exact ⟨⟨_, n, xs, rfl, ⟨HD.out.1, HD.out.2.1, HD1.out⟩, by omega⟩, HC1.out.more (by omega), HG1.out⟩
          · go_wp2
            go_ret
            exact ⟨⟨_, n, xs, rfl, HD.out, by omega⟩, HC.out.more (by omega), HG.out⟩
end Go.Proofs.Ytpjhmminbndgiaa
