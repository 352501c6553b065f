/- The model's way to blocks that are joined. -/
import Derived.Test.YtbibcjhfiopgdaaDoorJoinI
import Derived.Deep.RegionHeldLaw
namespace Go.Proofs.YtbibcjhfiopgdaaDoor
open Go.RowKit
set_option linter.unusedVariables false
set_option linter.unusedSimpArgs false
set_option maxRecDepth 100000

theorem step_append_sep {T e : TypeId} {size bytes : Nat} (E : Elt T e size bytes) {w : World} {ops : Array Oper} {o : Oper} {a : Act} {K : Act → World → Prop} {Q : Exit → Act → World → Prop} {EE : Prop} (hgd : o.guard = none) (s x : Operand)
    (ho : o.op = .call { callee := .builtin .append, args := #[s, x], argTypes := #[T, T] })
    (B : Nat) (l1 : List OR) {v : Value} {n : Nat} {xs : List Value} {l2 : List OR} (h : Sep w B (l1 ++ ⟨e, size, v, n, xs⟩ :: l2)) (hs : a.eval s = v) {ad : Option Addr} {m c : Nat} {news : List Value} (hn : News w ad m size news) (hx : a.eval x = .slice ad m c) (hb : n + m ≤ 4000000) (hB : B ≤ w.heap.size)
    (k : ∀ va vc w', Sep w' B (l1 ++ ⟨e, size, .slice va (n + m) vc, n + m, xs ++ news⟩ :: l2) → Below B w w' → w.grownBy w' v.ownBlock → K (a.put o.dst (.slice va (n + m) vc)) w') :
    if Region.wanted o (yielded ops a.tmps) = true then Oper.wp Tryd.prog o a w K Q else EE := by
  have hw : Region.wanted o (yielded ops a.tmps) = true := by simp [Region.wanted, hgd]
  rw [if_pos hw]
  exact wp_append_sep E s x ho B l1 h hs hn hx hb hB k
theorem OwnB.jrow {w : World} {B g c : Nat} {zs : List BV} (h : OwnB w B (.slice (some ⟨g, 0, none⟩) zs.length c) zs) : JRow w B g c zs := by
  refine ⟨h.outer, fun z hz => ?_⟩
  have hi := h.inner hz
  have hp := (List.pairwise_cons.1 h.2).1
  have hne : ∀ x ∈ rowsOf z, ∀ k, x.v.ownBlock = some k → ¬ k = g := by
    intro x hx k hk e
    have h1 := hp x (List.mem_flatMap.2 ⟨z, hz, hx⟩)
    rcases h1 with h1 | h1
    · cases h1
    · subst e; exact h1 (by rw [hk]; rfl)
  exact JB.own hi.1 hi.2 (hne ⟨86, 6, z.c, z.b.code.length, flatF z.b.code⟩ (by simp [rowsOf])) (hne ⟨3, 1, z.n, z.b.next.length, ints z.b.next⟩ (by simp [rowsOf]))
theorem JS.trimS {f : List Blk} {w wr : World} {g vc : Nat} {zs : List BV} (h : JS f w wr g vc zs) : Calls Tryd.prog 57 #[.slice (some ⟨g, 0, none⟩) f.length vc] wr fun e w' => TrimAns wr w' (blks zs) e := by
  have := sTrim_any (some ⟨g, 0, none⟩) vc (blks zs) wr h.2.1 (by have := sumB_good h.2.1; omega) h.brow
  rw [h.len] at this
  exact this
theorem JS.predsS {f : List Blk} {w wr : World} {g vc : Nat} {zs : List BV} (h : JS f w wr g vc zs) : Calls Tryd.prog 64 #[.slice (some ⟨g, 0, none⟩) f.length vc] wr fun e w' => PredAns wr w' (blks zs) e := by
  have := sPreds_any (some ⟨g, 0, none⟩) vc (blks zs) wr h.2.1 h.brow
  rw [h.len] at this
  exact this
theorem JS.reachS {f : List Blk} {w wr : World} {g vc : Nat} {zs : List BV} (h : JS f w wr g vc zs) : Calls Tryd.prog 55 #[.slice (some ⟨g, 0, none⟩) f.length vc] wr fun e w' => ∃ la lc l, e = .returned (.slice la l.length lc) ∧ IsRch (blks zs) l ∧ w'.ownsRow wr.heap.size 3 1 (.slice la l.length lc) l.length (ints (nats l)) ∧ Below wr.heap.size wr w' := by
  have := sReach_any (some ⟨g, 0, none⟩) vc (blks zs) wr h.2.1 h.brow
  rw [h.len] at this
  exact this
/-- a block, as it lies -/
theorem JS.blk {f : List Blk} {w wr : World} {g vc : Nat} {zs : List BV} (h : JS f w wr g vc zs) {k : Nat} (hk : k < f.length) :
    ∃ cs go test ns cv nv ca cc na nc, zs[k]? = some ⟨⟨cs, go, test, ns⟩, cv, nv⟩ ∧ (blks zs)[k]? = some ⟨cs, go, test, ns⟩ ∧ cv = .slice ca cs.length cc ∧ nv = .slice na ns.length nc ∧ cs.length ≤ 60 ∧ ns.length ≤ 6 ∧
      wr.cell? ⟨g, k * 4, none⟩ = some (.slice ca cs.length cc) ∧ wr.cell? ⟨g, k * 4 + 1, none⟩ = some (.int .i64 go) ∧ wr.cell? ⟨g, k * 4 + 2, none⟩ = some (.int .i64 test) ∧ wr.cell? ⟨g, k * 4 + 3, none⟩ = some (.slice na ns.length nc) ∧
      FRow wr ca cs ∧ Row wr na ns := by
  obtain ⟨z, hz⟩ : ∃ z, zs[k]? = some z := ⟨_, List.getElem?_eq_getElem (by rw [h.1]; exact hk)⟩
  obtain ⟨ca, cc, na, nc, e1, e2, e3⟩ := h.2.2.1.2 z (List.mem_of_getElem? hz)
  obtain ⟨f0, f1, f2, f3⟩ := flatB_at zs k z hz
  have e4 := e3 wr (.refl _ _)
  have ho := h.2.2.1.1
  have hb : (blks zs)[k]? = some z.b := by simp [blks, hz]
  have hle := lens_good h.2.1 _ (List.mem_of_getElem? hb)
  obtain ⟨⟨cs, go, test, ns⟩, cv, nv⟩ := z
  simp only at e1 e2 e4 f0 f1 f2 f3 hb hle
  have k0 := rowT_at ho rfl f0
  have k3 := rowT_at ho rfl f3
  rw [e1] at k0
  rw [e2] at k3
  exact ⟨cs, go, test, ns, cv, nv, ca, cc, na, nc, hz, hb, e1, e2, hle.1, hle.2, k0, rowT_at ho rfl f1, rowT_at ho rfl f2, k3, e4.1, e4.2⟩
set_option maxHeartbeats 16000000 in
theorem sJoin_any (a : Option Addr) (c : Nat) (f : List Blk) (w : World) (hg : goodFlow f = true) (h : BRow w a f) :
    Calls Tryd.prog 60 #[.slice a f.length c] w fun e w' => ∃ v zs gg l, e = .returned v ∧ OwnB w' w.heap.size v zs ∧ Joins f gg ∧ IsRch gg l ∧ blks zs = trimB gg l ∧ Below w.heap.size w w' := by
  have hf64 := flow_pos hg
  have HG := hid hg
  have H := hid h
  obtain ⟨b, off, rfl, hbw, hat⟩ := h.at (by intro e; subst e; simp at hf64)
  have HA := hid hat
  clear hat h hg
  go_enter Tryd.func60, Tryd.ntmps60
  go_wp2
  go_loopw [3, 17] (fun t3 t17 wr => ∃ (i : Nat) (zs : List BV), t17 = .int .i64 i ∧ i ≤ f.length ∧ zs.length = i ∧ Sep wr w.heap.size ([] ++ rowsB t3 zs) ∧ blks zs = f.take i ∧ Below w.heap.size w wr) (fun _ t17 _ => f.length - (intOf t17).toNat)
  case atStart =>
    refine ⟨0, [], rfl, by omega, rfl, ⟨fun x hx => ?_, by simp [rowsB]⟩, by simp [blks], Below.refl _ _⟩
    simp only [rowsB, List.flatMap_nil, List.nil_append, List.mem_cons, List.not_mem_nil, or_false] at hx
    subst hx
    exact World.ownsRow_nil _ _ _ _
  case round =>
    obtain ⟨i, zs, rfl, hi, hzl, hsep, hzs, hB⟩ := hrel
    have HSEP := hid hsep
    have HZ := hid (And.intro hzs hzl)
    obtain ⟨va, vc, rfl⟩ := slice_of_owned (sepIn (e := 60) (size := 4) (n := zs.length) (xs := flatB zs) hsep (List.mem_append_right _ (List.mem_cons_self ..)))
    clear hzs
    by_cases hlt : i < f.length
    · obtain ⟨cs, go, test, ns, ca, cc, xa, xc, d0, d1, d2, d3, l1, l2, HR, HX⟩ := HA.out wr hB i hlt
      have hcs := lens_good HG.out _ (List.mem_of_getElem? HX.out)
      simp only at hcs
      have hB0 := bstep' hB (below1 wr (.cells #[.slice ca cs.length cc, .int .i64 go, .int .i64 test, .slice xa ns.length xc] 60))
      have HOW := hid (sOwn_any go test cs ns ca xa cc xc (wr.alloc (.cells #[.slice ca cs.length cc, .int .i64 go, .int .i64 test, .slice xa ns.length xc] 60)) (by omega) (by omega) (HR.out.1.below hB0) (HR.out.2.below hB0))
      have HB0 := hid hB0
      clear hsep hzl hB0
      go_wp2_with fail
      refine HOW.out.mono ?_
      rintro e w2 ⟨pa, pc, qa, qc, rfl, hs2, hb2⟩
      have hS1 := Sep.below HSEP.out (below1 wr (.cells #[.slice ca cs.length cc, .int .i64 go, .int .i64 test, .slice xa ns.length xc] 60))
      have hS2 := hS1.append hb2 HB0.out.size hs2
      have HS6 : Hid (Sep (w2.alloc (.cells #[.slice pa cs.length pc, .int .i64 go, .int .i64 test, .slice qa ns.length qc] 60)) w.heap.size ([] ++ ⟨60, 4, .slice va zs.length vc, zs.length, flatB zs⟩ :: (zs.flatMap rowsOf ++ rowsOf ⟨⟨cs, go, test, ns⟩, .slice pa cs.length pc, .slice qa ns.length qc⟩))) := by
        have h1 := Sep.below hS2 (below1 w2 (.cells #[.slice pa cs.length pc, .int .i64 go, .int .i64 test, .slice qa ns.length qc] 60))
        refine Sep.sub h1 ?_
        simp [rowsB, rowsOf]
      have HN6 := hid (News.block w2 pa qa cs.length pc ns.length qc go test _ rfl)
      have HB6 := hid (bstep' (bstep' HB0.out hb2) (below1 w2 (.cells #[.slice pa cs.length pc, .int .i64 go, .int .i64 test, .slice qa ns.length qc] 60)))
      have hzn : zs.length ≤ 64 := by have := HZ.out.2; omega
      clear hs2 hb2 hS1 hS2 d0 d1 d2 d3
      go_wp2_with (at_builtin; refine wpList_append_sep eltBlock rfl _ _ rfl w.heap.size [] HS6.out rfl HN6.out rfl (by omega) HB6.out.size ?_)
      intro va2 vc2 w7 hs7 hb7 hg7
      have HS7 := hid hs7
      have HB7 := hid (HB6.out.trans hb7)
      clear hs7 hb7 hg7 HS6 HN6 HB6
      go_wp2
      go_roundw
      case rel =>
        refine ⟨i + 1, zs ++ [⟨⟨cs, go, test, ns⟩, .slice pa cs.length pc, .slice qa ns.length qc⟩], by go_num, by omega, by simp [HZ.out.2], ?_, ?_, HB7.out⟩
        · have := HS7.out
          have e1 : rowsB (.slice va2 (zs.length + 1) vc2) (zs ++ [⟨⟨cs, go, test, ns⟩, .slice pa cs.length pc, .slice qa ns.length qc⟩]) = ⟨60, 4, .slice va2 (zs.length + 1) vc2, zs.length + 1, flatB zs ++ [.slice pa cs.length pc, .int .i64 go, .int .i64 test, .slice qa ns.length qc]⟩ :: (zs.flatMap rowsOf ++ rowsOf ⟨⟨cs, go, test, ns⟩, .slice pa cs.length pc, .slice qa ns.length qc⟩) := by
            simp [rowsB, flatB_append, flatB, cellsB]
          rw [e1]
          exact this
        · rw [List.take_add_one, HX.out, ← HZ.out.1]
          simp [blks]
      case measure => simp [intOf]; omega
    · obtain rfl : i = f.length := by omega
      obtain ⟨g, rfl⟩ := own_addr (sepIn (e := 60) (size := 4) (v := .slice va zs.length vc) (n := zs.length) (xs := flatB zs) hsep (List.mem_append_right _ (List.mem_cons_self ..))) (by omega)
      have hjr : JRow wr w.heap.size g vc zs := OwnB.jrow (show Sep _ _ _ from hsep)
      have hbz : blks zs = f := by rw [HZ.out.1, List.take_of_length_le (Nat.le_refl _)]
      have hjs : JS f w wr g vc zs := ⟨hzl, by rw [hbz]; exact HG.out, hjr, hB, fun T hT => by rw [hbz] at hT; exact hT⟩
      have hgw : w.heap.size ≤ g := (hjr.1.lt g rfl).1
      obtain ⟨l0, hl0, _⟩ := exists_rch hjs.2.1
      have HJ0 := hid (And.intro hjs hl0)
      clear hsep hjr hbz hjs hB HSEP HZ hlt
      rw [hzl]
      go_wp2
      go_loopg [6] (l0.length + 2) (fun gk t6 wr => ∃ (zs : List BV) (l : List Nat), JS f w wr g vc zs ∧ IsRch (blks zs) l ∧ ((t6 = .bool true ∧ l.length + 1 ≤ gk) ∨ (t6 = .bool false ∧ ∃ P, IsPreds (blks zs) P ∧ NoneT (blks zs) P l)))
      case atStart => exact ⟨zs, l0, HJ0.out.1, HJ0.out.2, .inl ⟨rfl, by omega⟩⟩
      case round =>
        obtain ⟨zs, l, hjs, hrc, hcase⟩ := hrel
        have HJ := hid hjs
        have HRC := hid hrc
        clear HJ0
        rcases hcase with ⟨rfl, hgk⟩ | ⟨rfl, P, hP, hnone⟩
        · have HPR := hid hjs.predsS
          clear hjs hrc
          go_wp2_with fail
          refine HPR.out.mono ?_
          rintro e w3 ⟨pv, ys, P, rfl, hpo, hpy, hpp, hb3⟩
          have hj3 := HJ.out.below hb3
          have HRE := hid hj3.reachS
          go_wp2_with fail
          refine HRE.out.mono ?_
          rintro e w4 ⟨la, lc, l', rfl, hl', hol, hb4⟩
          obtain rfl := hl'.unique HRC.out
          have HJ4 := hid (hj3.below hb4)
          have HO4 := hid (And.intro (hpo.below hb4) (And.intro hpy (And.intro hpp hol)))
          have hl64 := hl'.len HJ.out.2.1
          clear hpo hpy hpp hb3 hj3 hl' hol hb4
          go_wp2
          go_loopw [6, 33] (fun t6 t33 wi => ∃ i : Nat, t33 = .int .i64 i ∧ t6 = .bool false ∧ i ≤ l'.length ∧ (∀ (j x : Nat), j < i → l'[j]? = some x → ¬ Can (blks zs) P x) ∧ Below w4.heap.size w4 wi) (fun _ t33 _ => l'.length - (intOf t33).toNat)
          case atStart => exact ⟨0, rfl, rfl, by omega, fun j x hj => by omega, Below.refl _ _⟩
          case round =>
            obtain ⟨i, rfl, rfl, hi, hnone, hB⟩ := hrel
            have HN := hid hnone
            have hjr := HJ4.out.below hB
            have HJR := hid hjr
            clear hnone
            by_cases hlt : i < l'.length
            · obtain ⟨k, hk⟩ : ∃ k, l'[i]? = some k := ⟨_, List.getElem?_eq_getElem hlt⟩
              have hkr := (HRC.out.2 k).1 (List.mem_of_getElem? hk)
              have hkf : k < f.length := by have := hkr.lt HJ.out.2.1; rw [HJ.out.len] at this; exact this
              have hol := owns_below HO4.out.2.2.2 hB
              obtain ⟨lg, rfl⟩ := own_addr hol (by omega)
              have c1 : wr.cell? ⟨lg, i, none⟩ = some (.int .i64 (k : Int)) := rowT_at hol rfl (by simp [ints, nats, hk])
              have HK := hid (And.intro hk hkr)
              obtain ⟨cs, go, test, ns, cv, nv, ca, cc, na, nc, hz, hbk, ecv, env, hcl, hnl, d0, d1, d2, d3, rc, rn⟩ := hjr.blk hkf
              have hgs : g < wr.heap.size := (hjr.2.2.1.1.lt g rfl).2
              have next : Hid (∀ (hno : ¬ Can (blks zs) P k) (j x : Nat), j < i + 1 → l'[j]? = some x → ¬ Can (blks zs) P x) := fun hno j x hj hx => by
                by_cases e : j = i
                · subst e; rw [hk] at hx; cases hx; exact hno
                · exact HN.out j x (by omega) hx
              clear hol hk hkr hjr
              by_cases hgo : go = 1
              · subst hgo
                obtain ⟨t, hn, ht⟩ := goTo_next HJ.out.2.1 hbk rfl
                simp only at hn
                subst hn
                rw [HJ.out.len] at ht
                obtain ⟨nb, noff, rfl, hcell⟩ := rn.resolve_left (by simp)
                have dn := hcell 0 (by simp)
                simp only [Nat.add_zero, List.getElem?_cons_zero, Option.getD_some] at dn
                have hnb : nb < wr.heap.size := World.block_lt_of_cell? wr _ dn
                obtain ⟨W1, hW1⟩ : ∃ W1, wr.alloc (.cells #[.slice ca cs.length cc, .int .i64 1, .int .i64 test, .slice (some ⟨nb, noff, none⟩) 1 nc] 60) = W1 := ⟨_, rfl⟩
                have hb1 : Below wr.heap.size wr W1 := by rw [← hW1]; exact below1 wr _
                obtain ⟨acc, aff⟩ := bcell hb1
                have dn1 := (acc nb noff hnb).trans dn
                obtain ⟨r, hr⟩ : ∃ r, P[t]? = some r := ⟨_, List.getElem?_eq_getElem (by rw [HO4.out.2.2.1.1, HJ.out.len]; exact ht)⟩
                obtain ⟨rv, hrv⟩ := own_of_lists HO4.out.2.1 hr
                have hpo := (HO4.out.1.below hB).below hb1
                have hyl : ys.length = f.length := by have := congrArg List.length HO4.out.2.1; rw [lists_length] at this; simp [natsL, HO4.out.2.2.1.1, blks_length] at this; rw [this]; exact HJ.out.1
                obtain ⟨vg, pvc, hpv⟩ : ∃ g c, pv = .slice (some ⟨g, 0, none⟩) f.length c := by
                  have ho := hpo.outer
                  obtain ⟨va, vc, rfl⟩ := slice_of_owned ho
                  obtain ⟨g, rfl⟩ := own_addr ho (by omega)
                  rw [hyl]
                  exact ⟨g, vc, rfl⟩
                subst hpv
                have p1 : W1.cell? ⟨vg, t, none⟩ = some rv := rowT_at hpo.outer rfl (show (vals ys)[t]? = some rv by simp [vals, hrv])
                have hio := hpo.inner (List.mem_of_getElem? hrv)
                simp only [] at hio
                obtain ⟨ra, rcp, hrr⟩ := slice_of_owned hio
                rw [nats_length] at hrr
                subst hrr
                have hrl : r.length ≤ 64 := by
                  have := nodup_le (n := (blks zs).length) (List.Pairwise.imp (fun h => Nat.ne_of_lt h) (HO4.out.2.2.1.2 t r hr).1) (fun j hj => (((HO4.out.2.2.1.2 t r hr).2 j).1 hj).1.lt HJ.out.2.1)
                  rw [HJ.out.len] at this
                  omega
                have c10 : W1.cell? ⟨wr.heap.size, 0, none⟩ = some (.slice ca cs.length cc) := by rw [← hW1]; simp [go_sem]
                have c11 : W1.cell? ⟨wr.heap.size, 1, none⟩ = some (.int .i64 1) := by rw [← hW1]; simp [go_sem]
                have c13 : W1.cell? ⟨wr.heap.size, 3, none⟩ = some (.slice (some ⟨nb, noff, none⟩) 1 nc) := by rw [← hW1]; simp [go_sem]
                have HBK := hid (And.intro hz (And.intro hbk (And.intro ecv env)))
                have HRR := hid (And.intro hr (And.intro rc rn))
                have HW1 := hid hW1
                have HB1 := hid hb1
                have hjt := HJR.out.below hb1
                obtain ⟨os, go2, test2, ns2, cv2, nv2, oa, oc, pa, pc, hz2, hbk2, ecv2, env2, hcl2, hnl2, e0, e1, e2, e3, rc2, rn2⟩ := hjt.blk ht
                have HC := hid (can_to hbk rfl rfl hbk2 hr)
                simp only at HC
                have HBK2 := hid (And.intro hz2 (And.intro hbk2 (And.intro ecv2 (And.intro env2 (And.intro rc2 rn2)))))
                have HJT := hid hjt
                have hrb : Below w4.heap.size w4 W1 := bstep' hB hb1
                have HRB := hid hrb
                clear hcell hpo hyl hrv hio hr rc rn hz hbk ecv env hW1 hb1 acc aff hz2 hbk2 ecv2 env2 rc2 rn2 hjt dn hrb
                by_cases ht0 : t = 0
                · have ht0' : (t : Int) = 0 := by omega
                  have HNX := hid (next.out (fun hc => (HC.out.1 hc).1 ht0))
                  clear next HN
                  go_wp2_with (rw [HW1.out])
                  go_roundw
                  case rel => exact ⟨i + 1, by go_num, rfl, by omega, HNX.out, HRB.out⟩
                  case measure => simp [intOf]; omega
                · have ht0' : ¬ (t : Int) = 0 := by omega
                  by_cases htk : t = k
                  · have HNX := hid (next.out (fun hc => by
                      obtain ⟨t', b', o', hc⟩ := hc
                      have h1 := hc.1
                      rw [HBK.out.2.1] at h1
                      cases h1
                      have h2 := hc.2.2.1
                      simp only at h2
                      have h3 : (t : Int) = t' := by injection h2
                      exact hc.ne HO4.out.2.2.1 HK.out.2 (by omega)))
                    have htk' : (t : Int) = k := by omega
                    clear next HN
                    go_wp2_with (rw [HW1.out])
                    go_roundw
                    case rel => exact ⟨i + 1, by go_num, rfl, by omega, HNX.out, HRB.out⟩
                    case measure => simp [intOf]; omega
                  · have htk' : ¬ (t : Int) = k := by omega
                    have g1 : ((t : Int) == 0) = false := by simp; omega
                    have g2 : ((t : Int) == (k : Int)) = false := by simp; omega
                    by_cases hr1 : r.length = 1
                    · obtain ⟨W2, hW2⟩ : ∃ W2, W1.alloc (.cells #[.slice oa os.length oc, .int .i64 go2, .int .i64 test2, .slice pa ns2.length pc] 60) = W2 := ⟨_, rfl⟩
                      have hz1 : W1.heap.size = wr.heap.size + 1 := by rw [← HW1.out]; simp
                      have hb2 : Below W1.heap.size W1 W2 := by rw [← hW2]; exact below1 W1 _
                      obtain ⟨acc, aff⟩ := bcell hb2
                      have c20 := (acc wr.heap.size 0 (by omega)).trans c10
                      have x20 : W2.cell? ⟨W1.heap.size, 0, none⟩ = some (.slice oa os.length oc) := by rw [← hW2]; simp [go_sem]
                      have x21 : W2.cell? ⟨W1.heap.size, 1, none⟩ = some (.int .i64 go2) := by rw [← hW2]; simp [go_sem]
                      have x22 : W2.cell? ⟨W1.heap.size, 2, none⟩ = some (.int .i64 test2) := by rw [← hW2]; simp [go_sem]
                      have x23 : W2.cell? ⟨W1.heap.size, 3, none⟩ = some (.slice pa ns2.length pc) := by rw [← hW2]; simp [go_sem]
                      have HB2 := hid hb2
                      have HW2 := hid hW2
                      have HZ1 := hid hz1
                      have q1 : ((r.length : Int) != 1) = false := by simp; omega
                      have q2 : decide (r.length = 1) = true := by simp; omega
                      have q4 : (r.length : Int) = 1 := by omega
                      have HWS : Hid (Int.toNat 0 = 0 ∧ IntKind.i64.wrap ((cs.length : Int) + os.length) = (cs.length : Int) + os.length) := ⟨rfl, by rw [IntKind.wrap_i64]; omega⟩
                      clear acc aff hb2 hW2 hz1
                      by_cases hsum : cs.length + os.length ≤ 60
                      · have HROWS := hid (HBK2.out.2.2.2.2)
                        have HOW := hid (sOwn_any go2 test2 os ns2 oa pa oc pc W2 (by omega) (by omega) (HROWS.out.1.below HB2.out) (HROWS.out.2.below HB2.out))
                        have HCT : Hid (CanT (blks zs) P k t ⟨cs, 1, test, [(t : Int)]⟩ ⟨os, go2, test2, ns2⟩) := by
                          obtain ⟨p, hp⟩ := List.length_eq_one_iff.1 hr1
                          have h1 := HRR.out.1
                          rw [hp] at h1
                          exact ⟨HBK.out.2.1, rfl, rfl, ht0, ⟨p, h1⟩, HBK2.out.2.1, hsum⟩
                        have HFS : Hid (First (blks zs) P l' k) := ⟨i, HK.out.1, ⟨_, _, _, HCT.out⟩, HN.out⟩
                        have hrow := HJR.out.2.2.1.1
                        have HZF : Hid (wr.frozen? ⟨g, k * 4, none⟩ = false ∧ wr.frozen? ⟨g, k * 4 + 1, none⟩ = false ∧ wr.frozen? ⟨g, k * 4 + 2, none⟩ = false ∧ wr.frozen? ⟨g, k * 4 + 3, none⟩ = false) := ⟨rowT_frz hrow rfl _, rowT_frz hrow rfl _, rowT_frz hrow rfl _, rowT_frz hrow rfl _⟩
                        have HDD := hid (And.intro d0 (And.intro d1 (And.intro d2 d3)))
                        clear next HN hrow
                        go_wp2_with (first | rw [HW2.out] | rw [HW1.out] | fail)
                        refine HOW.out.mono ?_
                        rintro e w5 ⟨ua, uc, xa2, xc2, rfl, hs5, hb5⟩
                        obtain ⟨W6, hW6⟩ : ∃ W6, w5.alloc (.cells #[.slice ua os.length uc, .int .i64 go2, .int .i64 test2, .slice xa2 ns2.length xc2] 60) = W6 := ⟨_, rfl⟩
                        have hb6 : Below w5.heap.size w5 W6 := by rw [← hW6]; exact below1 w5 _
                        have hb26 : Below W2.heap.size W2 W6 := bstep' hb5 hb6
                        have hz2 : W2.heap.size = W1.heap.size + 1 := by rw [← HW2.out]; simp
                        have hz6 : W6.heap.size = w5.heap.size + 1 := by rw [← hW6]; simp
                        have h25 := hb5.size
                        have hz1 := HZ1.out
                        obtain ⟨acc, aff⟩ := bcell hb26
                        have c60 := (acc wr.heap.size 0 (by omega)).trans c20
                        have x60 := (acc W1.heap.size 0 (by omega)).trans x20
                        have v0 : W6.cell? ⟨w5.heap.size, 0, none⟩ = some (.slice ua os.length uc) := by rw [← hW6]; simp [go_sem]
                        have v1 : W6.cell? ⟨w5.heap.size, 1, none⟩ = some (.int .i64 go2) := by rw [← hW6]; simp [go_sem]
                        have v2 : W6.cell? ⟨w5.heap.size, 2, none⟩ = some (.int .i64 test2) := by rw [← hW6]; simp [go_sem]
                        have v3 : W6.cell? ⟨w5.heap.size, 3, none⟩ = some (.slice xa2 ns2.length xc2) := by rw [← hW6]; simp [go_sem]
                        have vf : W6.frozen? ⟨w5.heap.size, 0, none⟩ = false := by rw [← hW6]; simp [go_sem]
                        have HKW : Hid (∀ W, Below W6.heap.size W6 W → W.cell? ⟨wr.heap.size, 0, none⟩ = some (.slice ca cs.length cc) ∧ W.cell? ⟨W1.heap.size, 0, none⟩ = some (.slice oa os.length oc) ∧ W.cell? ⟨w5.heap.size, 0, none⟩ = some (.slice ua os.length uc) ∧ W.frozen? ⟨w5.heap.size, 0, none⟩ = false) := fun W hW => ⟨((bcell hW).1 _ _ (by omega)).trans c60, ((bcell hW).1 _ _ (by omega)).trans x60, ((bcell hW).1 _ _ (by omega)).trans v0, ((bcell hW).2 _ _ (by omega)).trans vf⟩
                        have HB6 := hid (bstep' HB2.out hb26)
                        have HSA : Hid (Sep (W6.alloc (.cells #[] 86)) W6.heap.size ([] ++ ⟨86, 6, .slice (some ⟨W6.heap.size, 0, none⟩) 0 0, 0, []⟩ :: [])) := by
                          refine sep_one ⟨rfl, .inr ⟨W6.heap.size, 0, #[], rfl, Nat.le_refl _, heap_alloc_new W6 _, Nat.le_refl _, by unfold maxLen; omega, rfl, rfl⟩⟩
                        have HW6 := hid (And.intro hW6 (And.intro hs5 (And.intro hb6 (And.intro hb5 (And.intro hz2 (And.intro hz6 (And.intro h25 hz1)))))))
                        have n1 : ¬ wr.heap.size = w5.heap.size := by omega
                        have n2 : ¬ W1.heap.size = w5.heap.size := by omega
                        clear hW6 hs5 hb6 hb5 hz2 hz6 h25 hz1 acc aff hb26
                        have HNW : Hid (∀ W, Below wr.heap.size wr W → News W ca cs.length 6 (flatF cs)) := fun W hW => News.flats (HRR.out.2.1.below hW)
                        have HNO : Hid (∀ W, Below W1.heap.size W1 W → News W oa os.length 6 (flatF os)) := fun W hW => News.flats (HROWS.out.1.below hW)
                        have HB16 := hid (bstep' HB1.out HB6.out)
                        have HSB : Hid (∀ W, W = W6.alloc (.cells #[] 86) ∨ W = (W6.alloc (.cells #[] 86)).drew → Sep W W6.heap.size ([] ++ ⟨86, 6, .slice (some ⟨W6.heap.size, 0, none⟩) 0 0, 0, []⟩ :: []) ∧ Below W6.heap.size W6 W) := by
                          rintro W (rfl | rfl)
                          · exact ⟨HSA.out, below1 W6 _⟩
                          · exact ⟨HSA.out.drew, (below1 W6 _).drew⟩
                        have HKS : Hid (∀ W u, Below W6.heap.size W6 W → (W.setCell ⟨w5.heap.size, 0, none⟩ u).cell? ⟨wr.heap.size, 0, none⟩ = some (.slice ca cs.length cc) ∧ (W.setCell ⟨w5.heap.size, 0, none⟩ u).cell? ⟨W1.heap.size, 0, none⟩ = some (.slice oa os.length oc)) := fun W u hW => ⟨(World.cell?_setCell_other _ _ _ _ (fun e => n1 (by injection e with e1 _ _; exact e1.symm))).trans (HKW.out W hW).1, (World.cell?_setCell_other _ _ _ _ (fun e => n2 (by injection e with e1 _ _; exact e1.symm))).trans (HKW.out W hW).2.1⟩
                        go_wp2_with (rw [HW6.out.1])
                        go_region_held_law (fun W => W.cell? ⟨wr.heap.size, 0, none⟩ = some (.slice ca cs.length cc) ∧ W.cell? ⟨W1.heap.size, 0, none⟩ = some (.slice oa os.length oc)) ((first | exact ⟨(HKW.out _ (below1 W6 _).drew).1, (HKW.out _ (below1 W6 _).drew).2.1⟩ | exact ⟨(HKW.out _ (below1 W6 _)).1, (HKW.out _ (below1 W6 _)).2.1⟩ | exact ⟨(HKW.out _ b7).1, (HKW.out _ b7).2.1⟩ | exact ⟨(HKW.out _ b8).1, (HKW.out _ b8).2.1⟩ | exact HKS.out _ _ b8 | go_keep)) ((first | (refine step_append_sep eltFlat (by rfl) _ _ (by rfl) W6.heap.size [] (HSB.out _ (by first | exact .inl rfl | exact .inr rfl)).1 (by rfl) (HNW.out _ (bstep' HB16.out (HSB.out _ (by first | exact .inl rfl | exact .inr rfl)).2)) (by rfl) (by omega) (HSB.out _ (by first | exact .inl rfl | exact .inr rfl)).2.size ?_; intro va7 vc7 w7 s7 b7' g7; have b7 : Below W6.heap.size W6 w7 := (HSB.out _ (by first | exact .inl rfl | exact .inr rfl)).2.trans b7') | (refine step_append_sep eltFlat (by rfl) _ _ (by rfl) W6.heap.size [] (by first | exact s7 | exact Sep.drew s7) (by rfl) (HNO.out _ (by first | exact bstep' HB6.out b7 | exact (bstep' HB6.out b7).drew)) (by rfl) (by omega) (by first | exact b7.size | exact b7.drew.size) ?_; intro va8 vc8 w8 s8 b8' g8; have b8 : Below W6.heap.size W6 w8 := (by first | exact b7.trans b8' | exact b7.drew.trans b8'); obtain ⟨_, _, m1, m2⟩ := HKW.out _ b8)))
                        obtain ⟨hW6, hs5, hb6, hb5, hz2, hz6, h25, hz1⟩ := HW6.out
                        have s8' : w8.ownsRow W6.heap.size 86 6 (.slice va8 (cs.length + os.length) vc8) (cs.length + os.length) (flatF cs ++ flatF os) := by
                          have := one_sep s8
                          rw [Nat.zero_add, List.nil_append] at this
                          exact this
                        obtain ⟨W9, hW9⟩ : ∃ W9, w8.setCell ⟨w5.heap.size, 0, none⟩ (.slice va8 (cs.length + os.length) vc8) = W9 := ⟨_, rfl⟩
                        have kb : KeepsBut w5.heap.size w8 W9 := by rw [← hW9]; exact .set w8 0 _
                        have hb9 : Below wr.heap.size wr W9 := by rw [← hW9]; exact (bstep' HB16.out b8).setCell (by simp; omega) _
                        obtain ⟨acc9, aff9⟩ := bcell hb9
                        obtain ⟨acc8, aff8⟩ := bcell b8
                        have r0 : W9.cell? ⟨w5.heap.size, 0, none⟩ = some (.slice va8 (cs.length + os.length) vc8) := by rw [← hW9]; simp [go_sem, m1]
                        have r1 : W9.cell? ⟨w5.heap.size, 1, none⟩ = some (.int .i64 go2) := by rw [← hW9]; simp [go_sem, acc8 w5.heap.size 1 (by omega), v1]
                        have r2 : W9.cell? ⟨w5.heap.size, 2, none⟩ = some (.int .i64 test2) := by rw [← hW9]; simp [go_sem, acc8 w5.heap.size 2 (by omega), v2]
                        have r3 : W9.cell? ⟨w5.heap.size, 3, none⟩ = some (.slice xa2 ns2.length xc2) := by rw [← hW9]; simp [go_sem, acc8 w5.heap.size 3 (by omega), v3]
                        have s0 := (acc9 g (k * 4) hgs).trans HDD.out.1
                        have s1 := (acc9 g (k * 4 + 1) hgs).trans HDD.out.2.1
                        have s2 := (acc9 g (k * 4 + 2) hgs).trans HDD.out.2.2.1
                        have s3 := (acc9 g (k * 4 + 3) hgs).trans HDD.out.2.2.2
                        have y0 := (aff9 g (k * 4) hgs).trans HZF.out.1
                        have y1 := (aff9 g (k * 4 + 1) hgs).trans HZF.out.2.1
                        have y2 := (aff9 g (k * 4 + 2) hgs).trans HZF.out.2.2.1
                        have y3 := (aff9 g (k * 4 + 3) hgs).trans HZF.out.2.2.2
                        have hn5 : w5.ownsRow W2.heap.size 3 1 (.slice xa2 ns2.length xc2) ns2.length (ints ns2) := hs5.1 ⟨3, 1, .slice xa2 ns2.length xc2, ns2.length, ints ns2⟩ (by simp [rowsOf])
                        have hn9 := kb.owns (owns_below hn5 (bstep' hb6 b8)) (fun j hj => by have := (hn5.lt j hj).2; omega)
                        have hc9 := kb.owns s8' (fun j hj => by have := (s8'.lt j hj).1; omega)
                        have hJB : JB W9 g ⟨⟨cs ++ os, go2, test2, ns2⟩, .slice va8 (cs.length + os.length) vc8, .slice xa2 ns2.length xc2⟩ := by
                          refine JB.own (B := 0) (z := ⟨⟨cs ++ os, go2, test2, ns2⟩, .slice va8 (cs.length + os.length) vc8, .slice xa2 ns2.length xc2⟩) ?_ (owns_mono hn9 (Nat.zero_le _)) (fun j hj => ?_) (fun j hj => ?_)
                          · simp only [List.length_append, flatF_append]
                            exact owns_mono hc9 (Nat.zero_le _)
                          · have := (hc9.lt j hj).1; omega
                          · have := (hn9.lt j hj).1; omega
                        have HST := hid (JS.step (B := 0) HJR.out HRC.out HO4.out.2.2.1 HFS.out HCT.out hb9 HBK.out.1 rfl HBK2.out.1 rfl hJB hgw)
                        simp only at HST
                        obtain ⟨l2, hl2, _⟩ := exists_rch HST.out.2.1
                        have hless : l2.length < l'.length := by
                          have h1 := hl2
                          rw [show blks (zs.set k _) = joinAt (blks zs) k ⟨cs, 1, test, [(t : Int)]⟩ ⟨os, go2, test2, ns2⟩ from by rw [blks_set]; rfl] at h1
                          have h2 := HCT.out.fewer HO4.out.2.2.1 HK.out.2
                          exact rch_less HRC.out h1 h2.1 h2.2
                        have HL2 := hid hl2
                        have HW9 := hid hW9
                        have hng : ¬ g = w5.heap.size := by omega
                        have hng' : ¬ w5.heap.size = g := by omega
                        clear hW6 hs5 hb6 hb5 hz2 hz6 h25 hz1 s8' hW9 kb hb9 acc9 aff9 acc8 aff8 hn5 hn9 hc9 hJB hl2 s7 b7' g7 b7 s8 b8' g8 b8 m1 m2 v0 v1 v2 v3 vf c60 x60 c20 x20 x21 x22 x23 d0 d1 d2 d3 dn1 p1 c10 c11 c13 e0 e1 e2 e3
                        go_wp2_with (rw [HW9.out])
                        go_roundg (gk - 1)
                        case measure => omega
                        case rel => exact ⟨_, l2, HST.out, HL2.out, .inl ⟨rfl, by omega⟩⟩
                      · have HNX := hid (next.out (fun hc => hsum (HC.out.1 hc).2.2))
                        have HRB2 := hid (bstep' HRB.out HB2.out)
                        clear next HN
                        go_wp2_with (first | rw [HW2.out] | rw [HW1.out])
                        go_roundw
                        case rel => exact ⟨i + 1, by go_num, rfl, by omega, HNX.out, HRB2.out⟩
                        case measure => simp [intOf]; omega
                    · have hr1' : ¬ (r.length : Int) = 1 := by omega
                      have q1 : ((r.length : Int) != 1) = true := by simp; omega
                      have q2 : decide (r.length = 1) = false := by simp; omega
                      have q3 : (r.length != 1) = true := by simp; omega
                      have HNX := hid (next.out (fun hc => hr1 (HC.out.1 hc).2.1))
                      clear next HN
                      go_wp2_with (rw [HW1.out])
                      go_roundw
                      case rel => exact ⟨i + 1, by go_num, rfl, by omega, HNX.out, HRB.out⟩
                      case measure => simp [intOf]; omega
              · have HC := hid (next.out (can_no_go (P := P) hbk hgo))
                have HBA := hid (bstep' hB (below1 wr (.cells #[.slice ca cs.length cc, .int .i64 go, .int .i64 test, .slice na ns.length nc] 60)))
                clear next HN
                go_wp2
                go_roundw
                case rel => exact ⟨i + 1, by go_num, rfl, by omega, HC.out, HBA.out⟩
                case measure => simp [intOf]; omega
            · obtain rfl : i = l'.length := by omega
              go_wp2
              go_roundg (gk - 1)
              case measure => omega
              case rel =>
                refine ⟨zs, l', HJR.out, HRC.out, .inr ⟨rfl, P, HO4.out.2.2.1, fun k hk hc => ?_⟩⟩
                obtain ⟨j, hj, rfl⟩ := List.mem_iff_getElem.1 hk
                exact HN.out j _ hj (List.getElem?_eq_getElem hj) hc
        · have HTR := hid hjs.trimS
          have HPN := hid (And.intro hP hnone)
          clear hjs hrc hP hnone
          go_wp2_with fail
          refine HTR.out.mono ?_
          rintro e w4 ⟨v, na, nc, xs, l', rfl, hr', ho, hz, hb4⟩
          have HO := hid (And.intro hr' (And.intro ho hz))
          have HB4 := hid hb4
          clear hr' ho hz hb4
          go_wp2
          go_ret
          refine ⟨_, xs, blks zs, l', rfl, ?_, HJ.out.2.2.2.2 _ (.done HRC.out HPN.out.1 HPN.out.2), HO.out.1, HO.out.2.2, bstep' HJ.out.2.2.2.1 HB4.out⟩
          exact Sep.mono (Sep.sub HO.out.2.1 (List.sublist_cons_self _ _)) HJ.out.2.2.2.1.size
end Go.Proofs.YtbibcjhfiopgdaaDoor
