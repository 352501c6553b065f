/- Pairs of two rules, from place to place and by how many bytes they have in common, as the program makes them. -/
import Derived.Test.YtpjhmminbndgiaaIPairs
import Derived.Deep.RegionHeldLaw
namespace Go.Proofs.Ytpjhmminbndgiaa
open Go.RowKit
set_option linter.unusedVariables false
set_option linter.unusedSimpArgs false
set_option maxHeartbeats 4000000
set_option maxRecDepth 100000

/-- two structs in blocks of their own, and nothing made so far -/
theorem MadeP.two (w : World) (t : TypeId) (u1 u2 v1 v2 : Value) : MadeP ((w.alloc (.cells #[u1, u2] t)).alloc (.cells #[v1, v2] t)) w.heap.size [cellOR t 2 w.heap.size [u1, u2], cellOR t 2 (w.heap.size + 1) [v1, v2]] (.slice none 0 0) 0 [] := by
  refine ⟨rfl, ?_⟩
  have h1 := cell_own (w := w.alloc (.cells #[u1, u2] t)) (B := w.heap.size) (cs := #[u1, u2]) (t := t) (heap_alloc_new w _) rfl (Nat.le_refl _)
  have h2 : Sep (w.alloc (.cells #[u1, u2] t)) w.heap.size [cellOR t 2 w.heap.size [u1, u2]] := ⟨fun x hx => by simp at hx; subst hx; exact h1, by simp⟩
  have h3 := cell_own (w := (w.alloc (.cells #[u1, u2] t)).alloc (.cells #[v1, v2] t)) (B := w.heap.size + 1) (cs := #[v1, v2]) (t := t) (b := w.heap.size + 1) (by have := heap_alloc_new (w.alloc (.cells #[u1, u2] t)) (.cells #[v1, v2] t); rw [World.size_alloc] at this; exact this) rfl (Nat.le_refl _)
  have h4 := Sep.append h2 (below1 (w.alloc (.cells #[u1, u2] t)) (.cells #[v1, v2] t)) (by simp) (m := [cellOR t 2 (w.heap.size + 1) [v1, v2], ⟨32, 1, .slice none 0 0, 0, []⟩]) ⟨fun x hx => by
    simp only [List.mem_cons, List.mem_nil_iff, or_false] at hx
    rcases hx with rfl | rfl
    · rw [World.size_alloc]; exact h3
    · exact World.ownsRow_nil _ _ _ _, by
    simp [apt, Value.ownBlock]⟩
  simpa [pvals] using h4
theorem iWithin_any (b1 b2 : Nat) (f t g u : ByteArray) (w : World) (h1 : RBox w b1 f t) (h2 : RBox w b2 g u) (hf : f.size ≤ 6) (ht : t.size ≤ 6) (hg : g.size ≤ 6) (hu : u.size ≤ 6) :
    Calls Try.prog 70 #[.agg #[.string f, useV b1], .agg #[.string g, useV b2]] w fun e w' => (∃ v n ys, e = .returned v ∧ MadeP w' w.heap.size [] v n ys ∧ pprs ys = within (Bt f, Bt t) (Bt g, Bt u) ∧ n ≤ 6) ∧ Below w.heap.size w w' := by
  have CB := hid (fun (W : World) (hb : Below w.heap.size w W) (k : Nat) (hk : k ≤ f.size) => both_any b1 b2 f t g u f k W (h1.below hb) (h2.below hb) hf ht hg hu (by omega) hk)
  clear h1 h2
  have HM0 := hid (MadeP.two w 92 (.string f) (useV b1) (.string g) (useV b2))
  have HB0 := hid (below2 w (.cells #[.string f, useV b1] 92) (.cells #[.string g, useV b2] 92))
  go_enter Try.func70, Try.ntmps70
  go_wp2
  go_loopw [5, 10] (fun t5 t10 wr => ∃ (k n : Nat) (ys : List PV), t10 = .int .i64 (k : Int) ∧ k ≤ f.size ∧ n ≤ k ∧ MadeP wr w.heap.size [cellOR 92 2 w.heap.size [.string f, useV b1], cellOR 92 2 (w.heap.size + 1) [.string g, useV b2]] t5 n ys ∧ pprs ys = withinTo (Bt f, Bt t) (Bt g, Bt u) k ∧ Below w.heap.size w wr) (fun _ t10 _ => f.size - (intOf t10).toNat)
  case atStart => exact ⟨0, 0, [], rfl, by omega, by omega, HM0.out, rfl, HB0.out⟩
  case round =>
    clear HM0 HB0
    obtain ⟨V0, rfl⟩ : ∃ V0, V0 = wr := ⟨_, rfl⟩
    obtain ⟨k, n, ys, rfl, hkf, hnk, hM, hP, hB⟩ := hrel
    have d0 : V0.cell? ⟨w.heap.size, 0, none⟩ = some (.string f) := hM.2.cell (x := cellOR 92 2 w.heap.size [.string f, useV b1]) (by simp) rfl (j := 0) rfl
    have d1 : V0.cell? ⟨w.heap.size, 1, none⟩ = some (useV b1) := hM.2.cell (x := cellOR 92 2 w.heap.size [.string f, useV b1]) (by simp) rfl (j := 1) rfl
    have d2 : V0.cell? ⟨w.heap.size + 1, 0, none⟩ = some (.string g) := hM.2.cell (x := cellOR 92 2 (w.heap.size + 1) [.string g, useV b2]) (by simp) rfl (j := 0) rfl
    have d3 : V0.cell? ⟨w.heap.size + 1, 1, none⟩ = some (useV b2) := hM.2.cell (x := cellOR 92 2 (w.heap.size + 1) [.string g, useV b2]) (by simp) rfl (j := 1) rfl
    by_cases hlt : k < f.size
    · have hs1 := withinTo_succ (Bt f, Bt t) (Bt g, Bt u) k
      rw [← within_both] at hs1
      simp only [] at hs1
      have HIN : Hid (withinTo (Bt f, Bt t) (Bt g, Bt u) (k + 1) = pprs ys ++ bothL (Bt f, Bt t) (Bt g, Bt u) (Bt f) k) := by show _ = _; rw [hs1, hP]
      have HM := hid hM
      clear hM hP hs1
      go_wp2_with fail
      refine (CB.out _ hB k hkf).mono ?_
      rintro e w3 ⟨⟨v2, n2, ys2, rfl, hM2, hP2, hn2⟩, hb3⟩
      have hM3 := HM.out.join hb3 hB.size hM2
      obtain ⟨na, nc, rfl, hN⟩ := hM2.news
      have HM3 := hid hM3
      have HN := hid hN
      have HI2 := hid (And.intro hM2.1 hP2)
      have HB3 := hid (bstep' hB hb3)
      clear hM3 hN hM2 hP2 hb3 d0 d1 d2 d3
      go_wp2_with (at_builtin; refine wpList_append_sep eltStrs rfl _ _ rfl w.heap.size [cellOR 92 2 w.heap.size [.string f, useV b1], cellOR 92 2 (w.heap.size + 1) [.string g, useV b2]] HM3.out rfl HN.out rfl (by omega) HB3.out.size ?_)
      intro va2 vc2 w5 hs5 hb5 hg5
      have HS5 := hid (MadeP.joined (pre := [cellOR 92 2 w.heap.size [.string f, useV b1], cellOR 92 2 (w.heap.size + 1) [.string g, useV b2]]) HM.out.1 HI2.out.1 hs5)
      have HB5 := hid (HB3.out.trans hb5)
      clear hs5 hb5 hg5
      go_wp2
      go_roundw
      case rel =>
        refine ⟨k + 1, n + n2, ys ++ ys2, by go_num, by omega, by omega, HS5.out, ?_, HB5.out⟩
        rw [HIN.out, ← HI2.out.2]; simp [pprs]
      case measure => simp [intOf]; omega
    · obtain rfl : k = f.size := by omega
      have HP : Hid (pprs ys = within (Bt f, Bt t) (Bt g, Bt u)) := by
        show _ = _
        rw [hP, within_eq]
        simp only [← Bt_size]
      have HM : Hid (MadeP V0 w.heap.size [] u5 n ys) := ⟨hM.1, hM.2.tail.tail⟩
      clear hP hM
      go_wp2
      go_ret
      exact ⟨⟨_, n, ys, rfl, HM.out, HP.out, by omega⟩, hB⟩
theorem iAcross_any (b1 b2 : Nat) (f t g u : ByteArray) (w : World) (h1 : RBox w b1 f t) (h2 : RBox w b2 g u) (hf : f.size ≤ 6) (ht : t.size ≤ 6) (hg : g.size ≤ 6) (hu : u.size ≤ 6) (hf1 : 1 ≤ f.size) (hg1 : 1 ≤ g.size) :
    Calls Try.prog 69 #[.agg #[.string f, useV b1], .agg #[.string g, useV b2]] w fun e w' => (∃ v n ys, e = .returned v ∧ MadeP w' w.heap.size [] v n ys ∧ pprs ys = across (Bt f, Bt t) (Bt g, Bt u) ∧ n ≤ 6) ∧ Below w.heap.size w w' := by
  have H1 := hid h1
  have H2 := hid h2
  clear h1 h2
  have HM0 := hid (MadeP.two w 92 (.string f) (useV b1) (.string g) (useV b2))
  have HB0 := hid (below2 w (.cells #[.string f, useV b1] 92) (.cells #[.string g, useV b2] 92))
  go_enter Try.func69, Try.ntmps69
  go_wp2
  go_loopw [5, 6] (fun t5 t6 wr => ∃ (k n : Nat) (ys : List PV), t6 = .int .i64 ((k : Int) + 1) ∧ k ≤ min f.size g.size - 1 ∧ n ≤ k ∧ MadeP wr w.heap.size [cellOR 92 2 w.heap.size [.string f, useV b1], cellOR 92 2 (w.heap.size + 1) [.string g, useV b2]] t5 n ys ∧ pprs ys = acrossTo (Bt f, Bt t) (Bt g, Bt u) k ∧ Below w.heap.size w wr) (fun _ t6 _ => 8 - (intOf t6).toNat)
  case atStart => exact ⟨0, 0, [], rfl, by omega, by omega, HM0.out, rfl, HB0.out⟩
  case round =>
    clear HM0 HB0
    obtain ⟨V0, rfl⟩ : ∃ V0, V0 = wr := ⟨_, rfl⟩
    obtain ⟨k, n, ys, rfl, hkm, hnk, hM, hP, hB⟩ := hrel
    have d0 : V0.cell? ⟨w.heap.size, 0, none⟩ = some (.string f) := hM.2.cell (x := cellOR 92 2 w.heap.size [.string f, useV b1]) (by simp) rfl (j := 0) rfl
    have d1 : V0.cell? ⟨w.heap.size, 1, none⟩ = some (useV b1) := hM.2.cell (x := cellOR 92 2 w.heap.size [.string f, useV b1]) (by simp) rfl (j := 1) rfl
    have d2 : V0.cell? ⟨w.heap.size + 1, 0, none⟩ = some (.string g) := hM.2.cell (x := cellOR 92 2 (w.heap.size + 1) [.string g, useV b2]) (by simp) rfl (j := 0) rfl
    have d3 : V0.cell? ⟨w.heap.size + 1, 1, none⟩ = some (useV b2) := hM.2.cell (x := cellOR 92 2 (w.heap.size + 1) [.string g, useV b2]) (by simp) rfl (j := 1) rfl
    have hmin : min (f.size : Int) (g.size : Int) = ((min f.size g.size : Nat) : Int) := by omega
    by_cases hlt : k + 1 < min f.size g.size
    · have hlf : k + 1 < f.size := by omega
      have hlg : k + 1 < g.size := by omega
      have hs1 := acrossTo_succ (Bt f, Bt t) (Bt g, Bt u) k
      rw [← across_both (Bt f, Bt t) (Bt g, Bt u) k (by rw [← Bt_size]; exact hlf) (by rw [← Bt_size]; exact hlg)] at hs1
      simp only [← Bt_size] at hs1
      obtain ⟨q, hq⟩ : ∃ q, f.size - (k + 1) = q := ⟨_, rfl⟩
      have hqi : (f.size : Int) - ((k : Int) + 1) = (q : Int) := by omega
      have hXb : Bt (f.extract 0 q ++ g) = (Bt f).take q ++ Bt g := by rw [Bt_append, Bt_to]
      have hXs : (f.extract 0 q ++ g).size = q + g.size := by rw [Bt_size, hXb, List.length_append, List.length_take, ← Bt_size, ← Bt_size]; omega
      rw [hq, ← hXb] at hs1
      have CB := hid (fun (W : World) (hb : Below w.heap.size w W) => both_any b1 b2 f t g u (f.extract 0 q ++ g) q W (H1.out.below hb) (H2.out.below hb) hf ht hg hu (by omega) (by omega))
      have hsl := sl_to f (q : Int) q rfl (by omega)
      have HIN : Hid (acrossTo (Bt f, Bt t) (Bt g, Bt u) (k + 1) = pprs ys ++ bothL (Bt f, Bt t) (Bt g, Bt u) (Bt (f.extract 0 q ++ g)) q) := by show _ = _; rw [hs1, hP]
      have HM := hid hM
      have hbd : Below V0.heap.size V0 V0.drew := (Below.refl _ _).drew
      have HBD := hid (bstep' hB hbd)
      have HMD := hid (hM.below hbd)
      have HKK := hid (fun (W : World) (hS : Sep W w.heap.size ([cellOR 92 2 w.heap.size [.string f, useV b1], cellOR 92 2 (w.heap.size + 1) [.string g, useV b2]])) => And.intro (hS.cell (x := cellOR 92 2 w.heap.size [.string f, useV b1]) (by simp) rfl (j := 0) rfl) (And.intro (hS.cell (x := cellOR 92 2 w.heap.size [.string f, useV b1]) (by simp) rfl (j := 1) rfl) (And.intro (hS.cell (x := cellOR 92 2 (w.heap.size + 1) [.string g, useV b2]) (by simp) rfl (j := 0) rfl) (hS.cell (x := cellOR 92 2 (w.heap.size + 1) [.string g, useV b2]) (by simp) rfl (j := 1) rfl))))
      have hwr : IntKind.i64.wrap ((f.size : Int) - ((k : Int) + 1)) = (q : Int) := by rw [IntKind.wrap_i64]; omega
      have hw64 : wrap64 ((f.size : Int) - ((k : Int) + 1)) = (q : Int) := by unfold wrap64; omega
      clear hM hP hs1 hXb hbd
      go_wp2
      go_region_held_law (fun W => W.cell? ⟨w.heap.size, 0, none⟩ = some (.string f) ∧ W.cell? ⟨w.heap.size, 1, none⟩ = some (useV b1) ∧ W.cell? ⟨w.heap.size + 1, 0, none⟩ = some (.string g) ∧ W.cell? ⟨w.heap.size + 1, 1, none⟩ = some (useV b2)) ((first | exact hc9 | exact hc3 | go_keep)) ((first | (go_at_call 80; refine (CB.out _ HBD.out).mono ?_; rintro e w3 ⟨⟨v2, n2, ys2, rfl, hM2, hP2, hn2⟩, hb3⟩; have hM3 := HMD.out.join hb3 HBD.out.size hM2; have hc3 := HKK.out w3 (hM3.sub (List.sublist_append_left _ _)); obtain ⟨na, nc, rfl, hN⟩ := hM2.news; have HM3 := hid hM3; have HN := hid hN; have HI2 := hid (And.intro hM2.1 hP2); have HB3 := hid (bstep' HBD.out hb3); clear hM3 hN hM2 hP2 hb3) | (refine step_append_sep eltStrs (by rfl) _ _ (by rfl) w.heap.size [cellOR 92 2 w.heap.size [.string f, useV b1], cellOR 92 2 (w.heap.size + 1) [.string g, useV b2]] HM3.out (by rfl) HN.out (by rfl) (by omega) HB3.out.size ?_; intro va2 vc2 w5 hs5 hb5 hg5; have hc9 := HKK.out w5 (hs5.sub (List.sublist_append_left _ _)); have HS5 := hid (MadeP.joined (pre := [cellOR 92 2 w.heap.size [.string f, useV b1], cellOR 92 2 (w.heap.size + 1) [.string g, useV b2]]) HM.out.1 HI2.out.1 hs5); have HB5 := hid (HB3.out.trans hb5); clear hs5 hb5 hg5 hc3)))
      all_goals
        go_wp2
        go_roundw
        case rel =>
          refine ⟨k + 1, n + n2, ys ++ ys2, by go_num, by omega, by omega, HS5.out, ?_, HB5.out⟩
          rw [HIN.out, ← HI2.out.2]; simp [pprs]
        case measure => simp [intOf]; omega
    · obtain rfl : k = min f.size g.size - 1 := by omega
      have HP : Hid (pprs ys = across (Bt f, Bt t) (Bt g, Bt u)) := by
        show _ = _
        rw [hP, across_eq]
        simp only [← Bt_size]
      have HM : Hid (MadeP V0 w.heap.size [] u5 n ys) := ⟨hM.1, hM.2.tail.tail⟩
      clear hP hM
      go_wp2
      go_ret
      exact ⟨⟨_, n, ys, rfl, HM.out, HP.out, by omega⟩, hB⟩
end Go.Proofs.Ytpjhmminbndgiaa
