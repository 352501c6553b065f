/- slices.Grow of nothing, slices.Concat of two rows, slices.Clone of blocks. -/
import Derived.Test.YtbibcjhfiopgdaaDoorJoinS
import Derived.Lib.SliceRun
namespace Go.Proofs.YtbibcjhfiopgdaaDoor
open Go.RowKit
set_option linter.unusedVariables false
set_option linter.unusedSimpArgs false
set_option maxRecDepth 100000

/-- a made row is appended to nothing -/
theorem run_make_nil (w : World) (ty n : Nat) (h0 : 0 < n) (hn : n ≤ 4000) : ∃ cap w', (Builtin.append_ #[58, 3] ty #[.slice none 0 0, .int .i64 n]).run Tryd.prog w = .ok (.slice (some ⟨w.heap.size, 0, none⟩) n cap) w' ∧ n ≤ cap ∧ cap ≤ maxLen ∧ Below w.heap.size w w' ∧ w'.ownsRow w.heap.size 86 6 (.slice (some ⟨w.heap.size, 0, none⟩) 0 cap) 0 [] := by
  obtain ⟨i, hi, hz, hs, hb⟩ := info_parts info86
  have hn0 : n ≠ 0 := by omega
  have hw : IntKind.i64.wrap (n : Int) = (n : Int) := by rw [IntKind.wrap_i64]; omega
  have h1 : ¬ ((n : Int) < 0) := by omega
  have h2 : ¬ (281474976710656 < (n : Int) * 48) := by omega
  have h63' : ¬ (9223372036854775807 < (n : Int)) := by omega
  have h48' : ¬ (281474976710656 < Builtin.nextslicecap n 0 * i.bytes) := by rw [nextslicecap_zero h0, hb]; omega
  refine ⟨grownCap w n 0 86, w.drew.alloc (.cells (Builtin.zeroCells (Value.agg #[.int .i64 0, .int .i64 0, .int .i64 0, .int .i64 0, .int .i64 0, .int .i64 0]).cells n ++ Builtin.zeroCells (Value.agg #[.int .i64 0, .int .i64 0, .int .i64 0, .int .i64 0, .int .i64 0, .int .i64 0]).cells (grownCap w n 0 86 - n)) 86), ?_, grownCap_ge _ _ _ _, grownCap_le_maxLen _ _ _ _ (by unfold maxLen; omega), ?_, ?_⟩
  · simp [Builtin.append_, asIntOf, run_underlying Tryd.underlying58, run_underlying Tryd.underlying3, sizeOf, typeInfo, zeroValue, hi, hz, hs, hb, asInt, hw, h1, h2, Builtin.lenOf, hn0, h63', h48', Question.forced, run_firstCells_none, newRow, grownCap]
    rw [hb] at h48'
    rw [if_neg h48', if_neg (by omega)]
  · exact bstep' ((Below.refl _ w).drew) (below1 w.drew _)
  · refine ⟨rfl, .inr ⟨w.heap.size, _, _, rfl, Nat.le_refl _, heap_alloc_new w.drew _, Nat.zero_le _, grownCap_le_maxLen _ _ _ _ (by unfold maxLen; omega), ?_, by simp⟩⟩
    have hge := grownCap_ge w n 0 86
    rw [Array.size_append, size_zeroCells, size_zeroCells]
    simp [Value.cells]
    omega
theorem wpList_make_nil {w : World} {ops : Array Oper} {rest : List Oper} {o : Oper} {a : Act} {Q : Exit → Act → World → Prop} (hgd : o.guard = none) (s x : Operand)
    (ho : o.op = .call { callee := .builtin .append, args := #[s, x], argTypes := #[58, 3] }) (n : Nat) (hs : a.eval s = .slice none 0 0) (hx : a.eval x = .int .i64 n) (h0 : 0 < n) (hn : n ≤ 4000)
    (k : ∀ cap w', n ≤ cap → cap ≤ maxLen → Below w.heap.size w w' → w'.ownsRow w.heap.size 86 6 (.slice (some ⟨w.heap.size, 0, none⟩) 0 cap) 0 [] → wpList Tryd.prog ops Q rest (a.put o.dst (.slice (some ⟨w.heap.size, 0, none⟩) n cap)) w') : wpList Tryd.prog ops Q (o :: rest) a w :=
  wpList_plain hgd fun _ hK => by
    obtain ⟨cap, w', hr, h1, h2, h3, h4⟩ := run_make_nil w o.type n h0 hn
    unfold Oper.wp execOp
    simp only [ho, resolve, invoke, builtin, Sem.run_bind, Sem.run_pure, Result.andThen_ok, List.map_toArray, List.map_cons, List.map_nil, hs, hx, hr]
    exact hK _ _ (k cap w' h1 h2 h3 h4)
/-- nothing is made to bear n -/
theorem grow_any (n : Nat) (w : World) (hn : n ≤ 4000) :
    Calls Tryd.prog 88 #[.slice none 0 0, .int .i64 n] w fun e w' => ∃ va vc, e = .returned (.slice va 0 vc) ∧ w'.ownsRow w.heap.size 86 6 (.slice va 0 vc) 0 [] ∧ Below w.heap.size w w' := by
  by_cases h0 : n = 0
  · subst h0
    go_enter Tryd.func88, Tryd.ntmps88
    go_wp2
    go_ret
    exact ⟨_, _, rfl, World.ownsRow_nil _ _ _ _, Below.refl _ _⟩
  · go_enter Tryd.func88, Tryd.ntmps88
    go_wp2_with (at_builtin; refine wpList_make_nil rfl _ _ rfl n rfl rfl (by omega) hn ?_)
    intro cap w1 h1 h2 hb ho
    have HO := hid (And.intro hb ho)
    unfold maxLen at h2
    clear hb ho
    go_wp2
    go_ret
    exact ⟨_, _, rfl, HO.out.2, HO.out.1⟩
set_option maxHeartbeats 4000000 in
theorem concat_any (g : Nat) (ca oa : Option Addr) (cc oc : Nat) (cs os : List Flt) (w : World) (hc : cs.length ≤ 60) (ho : os.length ≤ 60) (d0 : w.cell? ⟨g, 0, none⟩ = some (.slice ca cs.length cc)) (d1 : w.cell? ⟨g, 1, none⟩ = some (.slice oa os.length oc)) (h0 : FRow w ca cs) (h1 : FRow w oa os) :
    Calls Tryd.prog 63 #[.slice (some ⟨g, 0, none⟩) 2 2] w fun e w' => ∃ va vc, e = .returned (.slice va (cs ++ os).length vc) ∧ w'.ownsRow w.heap.size 86 6 (.slice va (cs ++ os).length vc) (cs ++ os).length (flatF (cs ++ os)) ∧ Below w.heap.size w w' := by
  have H := hid (And.intro h0 h1)
  have hgw := World.block_lt_of_cell? w _ d0
  simp only at hgw
  clear h0 h1
  obtain ⟨n, hn⟩ : ∃ n, cs.length = n := ⟨_, rfl⟩
  obtain ⟨m, hm⟩ : ∃ m, os.length = m := ⟨_, rfl⟩
  rw [hn] at hc d0
  rw [hm] at ho d1
  have HNM := hid (And.intro hn hm)
  clear hn hm
  go_enter Tryd.func63, Tryd.ntmps63
  go_wp2
  go_loop [3, 11] (fun t3 t11 => (t11 = .int .i64 0 ∧ t3 = .int .i64 0) ∨ (t11 = .int .i64 1 ∧ t3 = .int .i64 n) ∨ (t11 = .int .i64 2 ∧ t3 = .int .i64 (n + m : Nat))) (fun _ t11 => 2 - (intOf t11).toNat)
  case atStart => exact .inl ⟨rfl, rfl⟩
  case round =>
    rcases hrel with ⟨rfl, rfl⟩ | ⟨rfl, rfl⟩ | ⟨rfl, rfl⟩
    · go_wp2
      go_round
      case rel => exact .inr (.inl ⟨rfl, rfl⟩)
      case measure => simp [intOf]
    · go_wp2
      go_round
      case rel => exact .inr (.inr ⟨rfl, by simp⟩)
      case measure => simp [intOf]
    · obtain ⟨q, hq⟩ : ∃ q, n + m = q := ⟨_, rfl⟩
      rw [hq]
      go_wp2_with fail
      refine (grow_any q _ (by omega)).mono ?_
      rintro e w1 ⟨va, vc, rfl, hs1, hb1⟩
      have d0' : w1.cell? ⟨g, 0, none⟩ = some (.slice ca n cc) := by rw [hb1.cell (p := ⟨g, 0, none⟩) hgw]; exact d0
      have d1' : w1.cell? ⟨g, 1, none⟩ = some (.slice oa m oc) := by rw [hb1.cell (p := ⟨g, 1, none⟩) hgw]; exact d1
      have HS1 := hid (sep_one hs1)
      have HB1 := hid hb1
      have hN1 := News.flats (H.out.1.below hb1)
      rw [HNM.out.1] at hN1
      have HN1 := hid hN1
      clear hs1 hb1 d0 d1 hN1
      go_wp2
      go_loopw [6, 27] (fun t6 t27 wr => (t27 = .int .i64 0 ∧ t6 = .slice va 0 vc ∧ wr = w1) ∨ (t27 = .int .i64 1 ∧ ∃ wa wc, t6 = .slice wa n wc ∧ Sep wr w.heap.size ([] ++ ⟨86, 6, .slice wa n wc, n, flatF cs⟩ :: []) ∧ Below w.heap.size w wr) ∨ (t27 = .int .i64 2 ∧ ∃ wa wc, t6 = .slice wa q wc ∧ Sep wr w.heap.size ([] ++ ⟨86, 6, .slice wa q wc, q, flatF (cs ++ os)⟩ :: []) ∧ Below w.heap.size w wr)) (fun _ t27 _ => 2 - (intOf t27).toNat)
      case atStart => exact .inl ⟨rfl, rfl, rfl⟩
      case round =>
        rcases hrel with ⟨rfl, rfl, rfl⟩ | ⟨rfl, wa, wc, rfl, hs, hb⟩ | ⟨rfl, wa, wc, rfl, hs, hb⟩
        · go_wp2_with (at_builtin; refine wpList_append_sep eltFlat rfl _ _ rfl w.heap.size [] HS1.out rfl HN1.out rfl (by omega) HB1.out.size ?_)
          intro va2 vc2 w2 hs2 hb2 hg2
          have HS2 : Hid (Sep w2 w.heap.size ([] ++ ⟨86, 6, .slice va2 n vc2, n, flatF cs⟩ :: [])) := by
            show Sep _ _ _
            simpa using hs2
          have HB2 := hid (HB1.out.trans hb2)
          clear hs2 hb2 hg2 d0' d1'
          go_wp2
          go_roundw
          case rel => exact .inr (.inl ⟨rfl, _, _, rfl, HS2.out, HB2.out⟩)
          case measure => simp [intOf]
        · have d2 : wr.cell? ⟨g, 1, none⟩ = some (.slice oa m oc) := by rw [hb.cell (p := ⟨g, 1, none⟩) hgw, ← HB1.out.cell (p := ⟨g, 1, none⟩) hgw]; exact d1'
          have hN2 := News.flats (H.out.2.below hb)
          rw [HNM.out.2] at hN2
          have HN2 := hid hN2
          have HS := hid hs
          have HB := hid hb
          clear hs hN2
          go_wp2_with (at_builtin; refine wpList_append_sep eltFlat rfl _ _ rfl w.heap.size [] HS.out rfl HN2.out rfl (by omega) HB.out.size ?_)
          intro va2 vc2 w2 hs2 hb2 hg2
          have HS2 : Hid (Sep w2 w.heap.size ([] ++ ⟨86, 6, .slice va2 q vc2, q, flatF (cs ++ os)⟩ :: [])) := by
            show Sep _ _ _
            rw [flatF_append]
            exact hs2
          have HB2 := hid (HB.out.trans hb2)
          clear hs2 hb2 hg2 d0' d1' d2
          go_wp2
          go_roundw
          case rel => exact .inr (.inr ⟨rfl, _, _, rfl, HS2.out, HB2.out⟩)
          case measure => simp [intOf]
        · have HS := hid hs
          clear hs
          go_wp2
          go_ret
          have hl : (cs ++ os).length = q := by rw [List.length_append, HNM.out.1, HNM.out.2, hq]
          rw [hl]
          exact ⟨_, _, rfl, one_sep HS.out, hb⟩
theorem build_bv : ∀ (f : List Blk) (P : Nat → BV → Prop), (∀ k x, f[k]? = some x → ∃ z : BV, z.b = x ∧ P k z) → ∃ zs : List BV, blks zs = f ∧ ∀ (k : Nat) (z : BV), zs[k]? = some z → P k z
  | [], P, _ => ⟨[], rfl, fun k z h => by simp at h⟩
  | x :: r, P, h => by
    obtain ⟨zs, h1, h2⟩ := build_bv r (fun k => P (k + 1)) (fun k y hy => h (k + 1) y (by simpa using hy))
    obtain ⟨z, hz, hp⟩ := h 0 x rfl
    refine ⟨z :: zs, by simp [blks] at h1 ⊢; exact ⟨hz, h1⟩, fun k y hy => ?_⟩
    cases k with
    | zero => simp at hy; subst hy; exact hp
    | succ k => exact h2 k y (by simpa using hy)
/-- blocks are copied, their lists are the same -/
theorem clone_any (a : Option Addr) (c : Nat) (f : List Blk) (w : World) (hg : goodFlow f = true) (h : BRow w a f) :
    Calls Tryd.prog 61 #[.slice a f.length c] w fun e w' => ∃ g vc zs, e = .returned (.slice (some ⟨g, 0, none⟩) f.length vc) ∧ JRow w' w.heap.size g vc zs ∧ blks zs = f ∧ Below w.heap.size w w' := by
  have hf64 := flow_pos hg
  obtain ⟨b, off, rfl, hat⟩ := h.resolve_left (by intro e; subst e; simp at hf64)
  obtain ⟨zs, hz, hzs⟩ := build_bv f (fun k z => ∃ ca cc na nc, z.c = .slice ca z.b.code.length cc ∧ z.n = .slice na z.b.next.length nc ∧ FRow w ca z.b.code ∧ Row w na z.b.next ∧ w.cell? ⟨b, off + k * 4, none⟩ = some z.c ∧ w.cell? ⟨b, off + k * 4 + 1, none⟩ = some (.int .i64 z.b.go) ∧ w.cell? ⟨b, off + k * 4 + 2, none⟩ = some (.int .i64 z.b.test) ∧ w.cell? ⟨b, off + k * 4 + 3, none⟩ = some z.n) (fun k x hx => by
    obtain ⟨ca, cc, na, nc, _, _, d0, d1, d2, d3, r1, r2⟩ := hat k x hx
    exact ⟨⟨x, .slice ca x.code.length cc, .slice na x.next.length nc⟩, rfl, ca, cc, na, nc, rfl, rfl, r1, r2, d0, d1, d2, d3⟩)
  have hzl : zs.length = f.length := by have := congrArg List.length hz; rw [blks_length] at this; exact this
  have hN : News w (some ⟨b, off, none⟩) f.length 4 (flatB zs) := by
    have key : ∀ j u, (flatB zs)[j]? = some u → w.cell? ⟨b, off + j, none⟩ = some u ∧ u.oneCell' = true := by
      intro j u hu
      have hj : j < zs.length * 4 := by have := (List.getElem?_eq_some_iff.1 hu).1; rw [flatB_length] at this; exact this
      obtain ⟨k, r, rfl, hr⟩ : ∃ k r, j = k * 4 + r ∧ r < 4 := ⟨j / 4, j % 4, by omega, by omega⟩
      obtain ⟨z, hzk⟩ : ∃ z, zs[k]? = some z := ⟨_, List.getElem?_eq_getElem (by omega)⟩
      obtain ⟨ca, cc, na, nc, e1, e2, _, _, d0, d1, d2, d3⟩ := hzs k z hzk
      obtain ⟨f0, f1, f2, f3⟩ := flatB_at zs k z hzk
      match r, hr with
      | 0, _ => rw [Nat.add_zero, f0] at hu; cases hu; exact ⟨d0, by rw [e1]; rfl⟩
      | 1, _ => rw [f1] at hu; cases hu; exact ⟨d1, rfl⟩
      | 2, _ => rw [f2] at hu; cases hu; exact ⟨d2, rfl⟩
      | 3, _ => rw [f3] at hu; cases hu; exact ⟨d3, by rw [e2]; rfl⟩
    refine ⟨by rw [flatB_length, hzl], fun u hu => ?_, .inr ⟨_, rfl, fun j u hj => ?_⟩⟩
    · obtain ⟨j, hj⟩ := List.mem_iff_getElem?.1 hu
      exact (key j u hj).2
    · rw [addr_add]; exact (key j u hj).1
  have HS0 : Hid (Sep (w.alloc (.cells #[] 60)) w.heap.size ([] ++ ⟨60, 4, .slice (some ⟨w.heap.size, 0, none⟩) 0 0, 0, []⟩ :: [])) := by
    refine sep_one ⟨rfl, .inr ⟨w.heap.size, 0, #[], rfl, Nat.le_refl _, ?_, Nat.le_refl _, by unfold maxLen; omega, rfl, rfl⟩⟩
    exact heap_alloc_new w _
  have hbw := below1 w (.cells #[] 60)
  have HN : Hid (News (w.alloc (.cells #[] 60)) (some ⟨b, off, none⟩) f.length 4 (flatB zs)) := by
    refine ⟨hN.1, hN.2.1, .inr ⟨_, rfl, fun j u hj => ?_⟩⟩
    rcases hN.2.2 with e0 | ⟨ad, ea, hc⟩
    · rw [e0] at hj; simp at hj
    · cases ea
      have hcj := hc j u hj
      rw [hbw.cell (World.block_lt_of_cell? w _ hcj)]; exact hcj
  have HB0 := hid hbw
  have HZ := hid (And.intro hz (And.intro hzl hzs))
  clear hat h hN hz hzl hzs hbw hg
  have hnil : (binOp .eql 25 (.slice (some ⟨b, off, none⟩) f.length c) (.slice none 0 0)).run Tryd.prog w = .ok (.bool false) w := Lib.run_eql_slice_nil w 25 60 _ _ _ _ _ Tryd.underlying25
  go_enter Tryd.func61, Tryd.ntmps61
  go_wp2_with (at_builtin; refine wpList_append_sep eltBlock rfl _ _ rfl w.heap.size [] HS0.out rfl HN.out rfl (by omega) HB0.out.size ?_)
  intro va vc w1 hs1 hb1 hg1
  have HB1 := hid (HB0.out.trans hb1)
  have ho : w1.ownsRow w.heap.size 60 4 (.slice va f.length vc) f.length (flatB zs) := by
    have := one_sep (l2 := []) hs1
    simpa using this
  obtain ⟨g, rfl⟩ := own_addr ho (by omega)
  have HO := hid ho
  clear hs1 hb1 hg1 ho HS0 HN
  go_wp2
  go_ret
  obtain ⟨hz, hzl, hzs⟩ := HZ.out
  refine ⟨g, vc, zs, rfl, ⟨by rw [hzl]; exact HO.out, fun z hzm => ?_⟩, hz, HB1.out⟩
  obtain ⟨k, hk⟩ := List.mem_iff_getElem?.1 hzm
  obtain ⟨ca, cc, na, nc, e1, e2, r1, r2, _⟩ := hzs k z hk
  have hgB := (HO.out.lt g rfl).1
  have hkeep : ∀ w', KeepsBut g w1 w' → ∀ p : Addr, p.block < w.heap.size → w'.cell? p = w.cell? p := fun w' hw p hp => by
    rw [hw.cell (Nat.lt_of_lt_of_le hp HB1.out.size) (by omega)]
    exact HB1.out.cell hp
  exact ⟨ca, cc, na, nc, e1, e2, fun w' hw => ⟨r1.kept (hkeep w' hw), r2.kept (hkeep w' hw)⟩⟩
end Go.Proofs.YtbibcjhfiopgdaaDoor
