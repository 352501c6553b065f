/- Blocks that are come to alone, numbered anew: the model's way and the program's. -/
import Derived.Test.YtbibcjhfiopgdaaDoorCopyB
import Derived.Test.YtbibcjhfiopgdaaDoorTrimMath
import Derived.Test.YtbibcjhfiopgdaaDoorReachI
import Derived.Test.YtbibcjhfiopgdaaDoorRep6
namespace Go.Proofs.YtbibcjhfiopgdaaDoor
open Go.RowKit
set_option linter.unusedVariables false
set_option linter.unusedSimpArgs false
set_option maxRecDepth 100000

theorem Sep.sub {w : World} {B : Nat} {l m : List OR} (h : Sep w B l) (hs : m.Sublist l) : Sep w B m := ⟨fun x hx => h.1 x (hs.mem hx), List.Pairwise.sublist hs h.2⟩
theorem News.block (w : World) (ca na : Option Addr) (cn cc nn nc : Nat) (go test : Int) (nb : Nat) (hnb : w.heap.size = nb) : News (w.alloc (.cells #[.slice ca cn cc, .int .i64 go, .int .i64 test, .slice na nn nc] 60)) (some ⟨nb, 0, none⟩) 1 4 [.slice ca cn cc, .int .i64 go, .int .i64 test, .slice na nn nc] := by
  subst hnb
  refine ⟨rfl, by simp [Value.oneCell'], .inr ⟨_, rfl, fun j u hj => ?_⟩⟩
  rw [addr_add, Nat.zero_add]
  match j, hj with
  | 0, hj => simp at hj; subst hj; simp [go_sem]
  | 1, hj => simp at hj; subst hj; simp [go_sem]
  | 2, hj => simp at hj; subst hj; simp [go_sem]
  | 3, hj => simp at hj; subst hj; simp [go_sem]
/-- what tells the blocks that stay, and their new numbers -/
def TrimAns (w w' : World) (f : List Blk) (e : Ending) : Prop := ∃ v na nc zs l, e = .returned (.tuple #[v, .slice na f.length nc]) ∧ IsRch f l ∧ Sep w' w.heap.size (⟨3, 1, .slice na f.length nc, f.length, ints (numsJ l f.length)⟩ :: rowsB v zs) ∧ blks zs = trimB f l ∧ Below w.heap.size w w'
def tr2 (f : List Blk) (l : List Nat) (i : Nat) : List Blk := (l.take i).filterMap fun k => (f[k]?).map (newBlk l)
/-- the rows that the second part leans on -/
def r2 (l : List Nat) (la : Option Addr) (lc n : Nat) (na : Option Addr) (nc : Nat) : List OR := [⟨3, 1, .slice la l.length lc, l.length, ints (nats l)⟩, ⟨3, 1, .slice na n nc, n, ints (numsJ l n)⟩]
theorem sepIn {w : World} {B : Nat} {l : List OR} (h : Sep w B l) {e : TypeId} {size n : Nat} {v : Value} {xs : List Value} (hm : (⟨e, size, v, n, xs⟩ : OR) ∈ l) : w.ownsRow B e size v n xs := h.1 _ hm
theorem own_addr {w : World} {B e s n c : Nat} {a : Option Addr} {xs : List Value} (h : w.ownsRow B e s (.slice a n c) n xs) (hn : 0 < n) : ∃ g, a = some ⟨g, 0, none⟩ := by
  rcases h.2 with ⟨_, h1⟩ | ⟨g, cap, cur, he, _⟩
  · omega
  · injection he with e1 _ _; exact ⟨g, e1⟩
theorem filt0 (l : List Nat) : (l.filter (fun x => decide (x < 0))).length = 0 := by simp
theorem hasB_nats {l : List Nat} {k : Nat} : hasB (nats l) (k : Int) = decide (k ∈ l) := by
  unfold hasB
  simp only [nats_mem]
theorem Sep.drew {w : World} {B : Nat} {l : List OR} (h : Sep w B l) : Sep w.drew B l := Sep.below h (Below.refl _ _).drew
set_option maxHeartbeats 8000000 in
theorem sTrim_any (a : Option Addr) (c : Nat) (f : List Blk) (w : World) (hg : goodFlow f = true) (hs : sumB f ≤ 1048576) (h : BRow w a f) :
    Calls Tryd.prog 57 #[.slice a f.length c] w fun e w' => TrimAns w w' f e := by
  have hf64 := flow_pos hg
  have HG := hid hg
  have HSM := hid hs
  have H := hid h
  obtain ⟨b, off, rfl, hbw, hat⟩ := h.at (by intro e; subst e; simp at hf64)
  have HA := hid hat
  clear hat h hg hs
  go_enter Tryd.func57, Tryd.ntmps57
  go_wp2_with fail
  refine (sReach_any _ c f _ HG.out H.out).mono ?_
  rintro e w1 ⟨la, lc, l, rfl, hl, hol, hb1⟩
  have hl64 : l.length ≤ 64 := by
    have := nodup_le (n := f.length) (List.Pairwise.imp (fun h => Nat.ne_of_lt h) hl.1) (fun k hk => ((hl.2 k).1 hk).lt HG.out)
    omega
  have hl1 : 1 ≤ l.length := List.length_pos_iff.2 (by intro e; have := (hl.2 0).2 .start; rw [e] at this; simp at this)
  have HL := hid hl
  obtain ⟨lg, rfl⟩ := own_addr hol (by omega)
  clear hl
  have HS1 : Hid (Sep w1 w.heap.size ([⟨3, 1, .slice (some ⟨lg, 0, none⟩) l.length lc, l.length, ints (nats l)⟩] ++ ⟨3, 1, .slice none 0 0, 0, []⟩ :: [])) := Sep.append (sep_one hol) (Below.refl _ _) hb1.size (sep_one (World.ownsRow_nil _ _ _ _))
  have HB1 := hid hb1
  clear hol hb1
  go_wp2
  go_loopw [5, 6, 18] (fun t5 t6 t18 wr => ∃ (j : Nat), t6 = .int .i64 ((l.filter (fun x => decide (x < j))).length : Int) ∧ t18 = .int .i64 j ∧ j ≤ f.length ∧ Sep wr w.heap.size ([⟨3, 1, .slice (some ⟨lg, 0, none⟩) l.length lc, l.length, ints (nats l)⟩] ++ ⟨3, 1, t5, j, ints (numsJ l j)⟩ :: []) ∧ Below w.heap.size w wr) (fun _ _ t18 _ => f.length - (intOf t18).toNat)
  case atStart => exact ⟨0, by rw [filt0]; rfl, rfl, by omega, HS1.out, HB1.out⟩
  case round =>
    obtain ⟨j, rfl, rfl, hj, hsep, hB⟩ := hrel
    have HSEP := hid hsep
    obtain ⟨na, nc, rfl⟩ := slice_of_owned (sep2 hsep)
    have hcb : (l.filter (fun x => decide (x < j))).length ≤ 64 := Nat.le_trans (List.length_filter_le _ _) hl64
    obtain ⟨m, hm⟩ : ∃ m, (l.filter (fun x => decide (x < j))).length = m := ⟨_, rfl⟩
    rw [hm] at hcb ⊢
    have HM := hid hm
    clear hsep HS1 HB1 hm
    by_cases hlt : j < f.length
    · have hhas := l1Has_any (some ⟨lg, 0, none⟩) lc (nats l) (j : Int) wr (by rw [nats_length]; omega) (own_row (by rw [nats_length]; exact sep1 HSEP.out))
      rw [nats_length, hasB_nats] at hhas
      have hfn := filter_next HL.out.1 j
      rw [HM.out] at hfn
      have HFN := hid hfn
      have HH := hid hhas
      clear hhas hfn
      go_wp2_with fail
      refine HH.out.mono ?_
      rintro e w2 ⟨rfl, hw2⟩
      subst w2
      by_cases hmem : j ∈ l
      · have hN : numOf l j = (m : Int) := by unfold numOf; rw [if_pos hmem, HM.out]
        have HF2 : Hid ((l.filter (fun x => decide (x < j + 1))).length = m + 1 ∧ numOf l j = (m : Int)) := ⟨by rw [HFN.out, if_pos hmem], hN⟩
        have HSB := hid (Sep.below HSEP.out (below1 wr (.cells #[.int .i64 (m : Int)] 3)))
        have HN1 := hid (News.one wr (.int .i64 (m : Int)) 3 _ rfl rfl)
        have HB1 := hid (bstep' hB (below1 wr (.cells #[.int .i64 (m : Int)] 3)))
        have hdm : decide (j ∈ l) = true := by simp [hmem]
        rw [hdm]
        clear hN hdm hmem HFN
        go_wp2_with (at_builtin; refine wpList_append_sep eltInt rfl _ _ rfl w.heap.size [⟨3, 1, .slice (some ⟨lg, 0, none⟩) l.length lc, l.length, ints (nats l)⟩] HSB.out rfl HN1.out rfl (by omega) HB1.out.size ?_)
        intro va2 vc2 w2 hs2 hb2 hg2
        have HS2 := hid hs2
        have HB2 := hid (HB1.out.trans hb2)
        clear hs2 hb2 hg2 HSB HN1 HB1
        go_wp2
        go_roundw
        case rel =>
          refine ⟨j + 1, by rw [HF2.out.1]; go_num, by go_num, by omega, ?_, HB2.out⟩
          have e1 : ints (numsJ l (j + 1)) = ints (numsJ l j) ++ [.int .i64 (m : Int)] := by rw [numsJ_succ, HF2.out.2]; simp [ints]
          rw [e1]
          exact HS2.out
        case measure => simp [intOf]; omega
      · have hN : numOf l j = -1 := by unfold numOf; rw [if_neg hmem]
        have HF2 : Hid ((l.filter (fun x => decide (x < j + 1))).length = m ∧ numOf l j = -1) := ⟨by rw [HFN.out, if_neg hmem]; rfl, hN⟩
        have HSB := hid (Sep.below HSEP.out (below1 wr (.cells #[.int .i64 (-1)] 3)))
        have HN1 := hid (News.one wr (.int .i64 (-1)) 3 _ rfl rfl)
        have HB1 := hid (bstep' hB (below1 wr (.cells #[.int .i64 (-1)] 3)))
        have hdm : decide (j ∈ l) = false := by simp [hmem]
        rw [hdm]
        clear hN hdm hmem HFN
        go_wp2_with (at_builtin; refine wpList_append_sep eltInt rfl _ _ rfl w.heap.size [⟨3, 1, .slice (some ⟨lg, 0, none⟩) l.length lc, l.length, ints (nats l)⟩] HSB.out rfl HN1.out rfl (by omega) HB1.out.size ?_)
        intro va2 vc2 w2 hs2 hb2 hg2
        have HS2 := hid hs2
        have HB2 := hid (HB1.out.trans hb2)
        clear hs2 hb2 hg2 HSB HN1 HB1
        go_wp2
        go_roundw
        case rel =>
          refine ⟨j + 1, by rw [HF2.out.1], by go_num, by omega, ?_, HB2.out⟩
          have e1 : ints (numsJ l (j + 1)) = ints (numsJ l j) ++ [.int .i64 (-1)] := by rw [numsJ_succ, HF2.out.2]; simp [ints]
          rw [e1]
          exact HS2.out
        case measure => simp [intOf]; omega
    · obtain rfl : j = f.length := by omega
      obtain ⟨ng, rfl⟩ := own_addr (sep2 HSEP.out) (by omega)
      have HSL : Hid (Sep wr w.heap.size (r2 l (some ⟨lg, 0, none⟩) lc f.length (some ⟨ng, 0, none⟩) nc)) := HSEP.out
      have HBL := hid hB
      clear HSEP hlt hB
      go_wp2
      go_loopw [8, 36] (fun t8 t wr => ∃ (i : Nat) (zs : List BV), t = .int .i64 i ∧ i ≤ l.length ∧ zs.length = i ∧ Sep wr w.heap.size (r2 l (some ⟨lg, 0, none⟩) lc f.length (some ⟨ng, 0, none⟩) nc ++ rowsB t8 zs) ∧ blks zs = tr2 f l i ∧ Below w.heap.size w wr) (fun _ t _ => l.length - (intOf t).toNat)
      case atStart =>
        refine ⟨0, [], rfl, by omega, rfl, ?_, by simp [blks, tr2], HBL.out⟩
        refine Sep.append HSL.out (Below.refl _ _) HBL.out.size ⟨fun x hx => ?_, by simp [rowsB]⟩
        simp only [rowsB, List.flatMap_nil, List.mem_cons, List.not_mem_nil, or_false] at hx
        subst hx
        exact World.ownsRow_nil _ _ _ _
      case round =>
        obtain ⟨i, zs, rfl, hi, hzl, hsep, hzs, hB⟩ := hrel
        have HSEP := hid hsep
        have HZ := hid (And.intro hzs hzl)
        obtain ⟨va, vc, rfl⟩ := slice_of_owned (sepIn (e := 60) (size := 4) (n := zs.length) (xs := flatB zs) hsep (List.mem_append_right _ (List.mem_cons_self ..)))
        clear hzs HSL HBL
        by_cases hlt : i < l.length
        · obtain ⟨k, hk⟩ : ∃ k, l[i]? = some k := ⟨_, List.getElem?_eq_getElem hlt⟩
          have hkf : k < f.length := ((HL.out.2 k).1 (List.mem_of_getElem? hk)).lt HG.out
          have c1 : wr.cell? ⟨lg, i, none⟩ = some (.int .i64 (k : Int)) := rowT_at (sepIn (v := .slice (some ⟨lg, 0, none⟩) l.length lc) (n := l.length) (xs := ints (nats l)) (e := 3) (size := 1) hsep (by simp [r2])) rfl (by simp [ints, nats, hk])
          obtain ⟨cs, go, test, ns, ca, cc, xa, xc, d0, d1, d2, d3, l1, l2, HR, HX⟩ := HA.out wr hB k hkf
          have hcs : cs.length ≤ 1048576 ∧ ns.length ≤ 1048576 := by have := len_le_sumB HX.out; have := HSM.out; simp only [] at *; omega
          have HK := hid hk
          clear hk hsep hzl
          go_wp2_with fail
          refine (sOwn_any go test cs ns ca xa cc xc _ hcs.1 hcs.2 (HR.out.1.below hB) (HR.out.2.below hB)).mono ?_
          rintro e w2 ⟨pa, pc, qa, qc, rfl, hs2, hb2⟩
          have hS2 := HSEP.out.append hb2 hB.size hs2
          have hbx : (cellOR 60 4 w2.heap.size [.slice pa cs.length pc, .int .i64 go, .int .i64 test, .slice qa ns.length qc]).own (w2.alloc (.cells #[.slice pa cs.length pc, .int .i64 go, .int .i64 test, .slice qa ns.length qc] 60)) w2.heap.size := cell_own (heap_alloc_new w2 _) rfl (Nat.le_refl _)
          have HS4 := hid (hS2.append (below1 w2 (.cells #[.slice pa cs.length pc, .int .i64 go, .int .i64 test, .slice qa ns.length qc] 60)) (bstep' hB hb2).size (sep_one hbx))
          have HB3 := hid (bstep' (bstep' hB hb2) (below1 w2 (.cells #[.slice pa cs.length pc, .int .i64 go, .int .i64 test, .slice qa ns.length qc] 60)))
          clear hs2 hb2 hS2 hbx c1 d0 d1 d2 d3
          obtain ⟨L0, hL0⟩ : ∃ L0, r2 l (some ⟨lg, 0, none⟩) lc f.length (some ⟨ng, 0, none⟩) nc ++ rowsB (.slice va zs.length vc) zs ++ [⟨86, 6, .slice pa cs.length pc, cs.length, flatF cs⟩] = L0 := ⟨_, rfl⟩
          have HS5 : Hid (Sep (w2.alloc (.cells #[.slice pa cs.length pc, .int .i64 go, .int .i64 test, .slice qa ns.length qc] 60)) w.heap.size (L0 ++ ⟨3, 1, .slice qa ns.length qc, ns.length, ints (half l ns 0)⟩ :: [cellOR 60 4 w2.heap.size [.slice pa cs.length pc, .int .i64 go, .int .i64 test, .slice qa ns.length qc]])) := by
            show Sep _ _ _
            rw [← hL0, half_zero]
            have := HS4.out
            simpa [rowsOf] using this
          have HL0 := hid hL0
          obtain ⟨bx, hbx⟩ : ∃ bx, w2.heap.size = bx := ⟨_, rfl⟩
          rw [hbx] at HS5
          clear hL0 HS4 HSEP
          go_wp2
          go_loopw [48] (fun t wi => ∃ (q : Nat), t = .int .i64 q ∧ q ≤ ns.length ∧ Sep wi w.heap.size (L0 ++ ⟨3, 1, .slice qa ns.length qc, ns.length, ints (half l ns q)⟩ :: [cellOR 60 4 bx [.slice pa cs.length pc, .int .i64 go, .int .i64 test, .slice qa ns.length qc]]) ∧ Below w.heap.size w wi) (fun t _ => ns.length - (intOf t).toNat)
          case atStart => exact ⟨0, rfl, by omega, HS5.out, HB3.out⟩
          case round =>
            obtain ⟨q, rfl, hq, hsq, hBq⟩ := hrel
            have HSQ := hid hsq
            clear hsq HS5 HB3
            have e3 : wr.cell? ⟨bx, 3, none⟩ = some (.slice qa ns.length qc) := HSQ.out.cell (x := cellOR 60 4 bx [.slice pa cs.length pc, .int .i64 go, .int .i64 test, .slice qa ns.length qc]) (by simp) rfl (by simp)
            by_cases hql : q < ns.length
            · have hoq := sepIn (e := 3) (size := 1) (v := .slice qa ns.length qc) (n := ns.length) (xs := ints (half l ns q)) HSQ.out (by simp)
              obtain ⟨qg, rfl⟩ := own_addr hoq (by omega)
              obtain ⟨y, hy⟩ : ∃ y, ns[q]? = some y := ⟨_, List.getElem?_eq_getElem hql⟩
              obtain ⟨x, hyn, hxf, hxl⟩ := nat_of_next HG.out HX.out hy
              subst hyn
              have hhq : (half l ns q)[q]? = some (x : Int) := by rw [half_at l ns q hql]; exact hy
              have e4 : wr.cell? ⟨qg, q, none⟩ = some (.int .i64 (x : Int)) := rowT_at hoq rfl (by simp [ints, hhq])
              have e5 := rowT_frz hoq rfl q
              have hon := sepIn (e := 3) (size := 1) (v := .slice (some ⟨ng, 0, none⟩) f.length nc) (n := f.length) (xs := ints (numsJ l f.length)) HSQ.out (by rw [← HL0.out]; simp [r2])
              have e6 : wr.cell? ⟨ng, x, none⟩ = some (.int .i64 (numOf l x)) := rowT_at hon rfl (by simp [ints, numsJ_at l f.length x hxf])
              have hst := Sep.store L0 HSQ.out q (.int .i64 (numOf l x))
              have ehs : (ints (half l ns q)).set q (.int .i64 (numOf l x)) = ints (half l ns (q + 1)) := by
                rw [← half_set l ns q x hy]; simp [ints, List.map_set]
              rw [ehs] at hst
              have HST := hid hst
              obtain ⟨nx, hnx⟩ : ∃ nx, numOf l x = nx := ⟨_, rfl⟩
              rw [hnx] at e6 HST
              clear hoq hon hst ehs hhq hy hxl hnx
              go_wp2
              go_region
              all_goals
                go_wp2
                go_roundw
                case rel => exact ⟨q + 1, by go_num, by omega, Sep.drew HST.out, (hBq.setCell (p := ⟨qg, q, none⟩) (HSQ.out.size (x := ⟨3, 1, .slice (some ⟨qg, 0, none⟩) ns.length qc, ns.length, ints (half l ns q)⟩) (by simp) rfl).1 _).drew⟩
                case measure => simp [intOf]; omega
            · obtain rfl : q = ns.length := by omega
              have g0 : wr.cell? ⟨bx, 0, none⟩ = some (.slice pa cs.length pc) := HSQ.out.cell (x := cellOR 60 4 bx [.slice pa cs.length pc, .int .i64 go, .int .i64 test, .slice qa ns.length qc]) (by simp) rfl (by simp)
              have g1 : wr.cell? ⟨bx, 1, none⟩ = some (.int .i64 go) := HSQ.out.cell (x := cellOR 60 4 bx [.slice pa cs.length pc, .int .i64 go, .int .i64 test, .slice qa ns.length qc]) (by simp) rfl (by simp)
              have g2 : wr.cell? ⟨bx, 2, none⟩ = some (.int .i64 test) := HSQ.out.cell (x := cellOR 60 4 bx [.slice pa cs.length pc, .int .i64 go, .int .i64 test, .slice qa ns.length qc]) (by simp) rfl (by simp)
              have HS6 : Hid (Sep (wr.alloc (.cells #[.slice pa cs.length pc, .int .i64 go, .int .i64 test, .slice qa ns.length qc] 60)) w.heap.size (r2 l (some ⟨lg, 0, none⟩) lc f.length (some ⟨ng, 0, none⟩) nc ++ ⟨60, 4, .slice va zs.length vc, zs.length, flatB zs⟩ :: (zs.flatMap rowsOf ++ rowsOf ⟨⟨cs, go, test, newNext l ns⟩, .slice pa cs.length pc, .slice qa ns.length qc⟩))) := by
                have h1 := Sep.below HSQ.out (below1 wr (.cells #[.slice pa cs.length pc, .int .i64 go, .int .i64 test, .slice qa ns.length qc] 60))
                rw [half_end, ← HL0.out] at h1
                refine Sep.sub h1 ?_
                simp [rowsB, rowsOf, newNext_length]
              have HN6 := hid (News.block wr pa qa cs.length pc ns.length qc go test _ rfl)
              have HB6 := hid (bstep' hBq (below1 wr (.cells #[.slice pa cs.length pc, .int .i64 go, .int .i64 test, .slice qa ns.length qc] 60)))
              have hzn : zs.length ≤ 64 := by have := HZ.out.2; omega
              clear HSQ
              go_wp2_with (at_builtin; refine wpList_append_sep eltBlock rfl _ _ rfl w.heap.size (r2 l (some ⟨lg, 0, none⟩) lc f.length (some ⟨ng, 0, none⟩) nc) HS6.out rfl HN6.out rfl (by omega) HB6.out.size ?_)
              intro va2 vc2 w7 hs7 hb7 hg7
              have HS7 := hid hs7
              have HB7 := hid (HB6.out.trans hb7)
              clear hs7 hb7 hg7 HS6 HN6 HB6
              go_wp2
              go_roundw
              case rel =>
                refine ⟨i + 1, zs ++ [⟨⟨cs, go, test, newNext l ns⟩, .slice pa cs.length pc, .slice qa ns.length qc⟩], by go_num, by omega, by simp [HZ.out.2], ?_, ?_, HB7.out⟩
                · have := HS7.out
                  have e1 : rowsB (.slice va2 (zs.length + 1) vc2) (zs ++ [⟨⟨cs, go, test, newNext l ns⟩, .slice pa cs.length pc, .slice qa ns.length qc⟩]) = ⟨60, 4, .slice va2 (zs.length + 1) vc2, zs.length + 1, flatB zs ++ [.slice pa cs.length pc, .int .i64 go, .int .i64 test, .slice qa ns.length qc]⟩ :: (zs.flatMap rowsOf ++ rowsOf ⟨⟨cs, go, test, newNext l ns⟩, .slice pa cs.length pc, .slice qa ns.length qc⟩) := by
                    simp [rowsB, flatB_append, flatB, cellsB]
                  rw [e1]
                  exact this
                · have e2 : tr2 f l (i + 1) = tr2 f l i ++ [newBlk l ⟨cs, go, test, ns⟩] := trimB_take HK.out HX.out
                  rw [e2, ← HZ.out.1]
                  simp [blks, newBlk]
              case measure => simp [intOf]; omega
        · obtain rfl : i = l.length := by omega
          go_wp2
          go_ret2
          refine ⟨_, _, _, zs, l, rfl, HL.out, Sep.sub HSEP.out (by simp [r2]), ?_, hB⟩
          rw [HZ.out.1]
          unfold tr2 trimB
          rw [List.take_of_length_le (Nat.le_refl _)]
set_option maxHeartbeats 8000000 in
theorem iTrim_any (a : Option Addr) (c : Nat) (f : List Blk) (w : World) (hg : goodFlow f = true) (hs : sumB f ≤ 1048576) (h : BRow w a f) :
    Calls Tryd.prog 58 #[.slice a f.length c] w fun e w' => TrimAns w w' f e := by
  have hf64 := flow_pos hg
  have HG := hid hg
  have HSM := hid hs
  have H := hid h
  obtain ⟨b, off, rfl, hbw, hat⟩ := h.at (by intro e; subst e; simp at hf64)
  have HA := hid hat
  clear hat h hg hs
  go_enter Tryd.func58, Tryd.ntmps58
  go_wp2_with fail
  refine (iReach_any _ c f _ HG.out H.out).mono ?_
  rintro e w1 ⟨la, lc, l, rfl, hl, hol, hb1⟩
  have hl64 : l.length ≤ 64 := by
    have := nodup_le (n := f.length) (List.Pairwise.imp (fun h => Nat.ne_of_lt h) hl.1) (fun k hk => ((hl.2 k).1 hk).lt HG.out)
    omega
  have hl1 : 1 ≤ l.length := List.length_pos_iff.2 (by intro e; have := (hl.2 0).2 .start; rw [e] at this; simp at this)
  have HL := hid hl
  obtain ⟨lg, rfl⟩ := own_addr hol (by omega)
  clear hl
  have hc1 : (w1.alloc (.cells #[.int .i64 (-1)] 3)).cell? ⟨w1.heap.size, 0, none⟩ = some (.int .i64 (-1)) := by simp [go_sem]
  have HRP := hid (repeat_any w1.heap.size f.length (w1.alloc (.cells #[.int .i64 (-1)] 3)) hf64.1 hf64.2 hc1)
  have HS0 := hid (Sep.below (sep_one hol) (below1 w1 (.cells #[.int .i64 (-1)] 3)))
  have HB0 := hid (bstep' hb1 (below1 w1 (.cells #[.int .i64 (-1)] 3)))
  clear hol hb1 hc1
  go_wp2_with fail
  refine HRP.out.mono ?_
  rintro e w2 ⟨rfl, ho2, hb2⟩
  have HS1 : Hid (Sep w2 w.heap.size ([⟨3, 1, .slice (some ⟨lg, 0, none⟩) l.length lc, l.length, ints (nats l)⟩] ++ ⟨3, 1, .slice (some ⟨(w1.alloc (.cells #[.int .i64 (-1)] 3)).heap.size, 0, none⟩) f.length f.length, f.length, ints (numsI l 0 f.length)⟩ :: [])) := by
    show Sep _ _ _
    rw [numsI_zero]
    exact Sep.append HS0.out hb2 HB0.out.size (sep_one ho2)
  have HB1 := hid (bstep' HB0.out hb2)
  obtain ⟨ng, hng⟩ : ∃ ng, (w1.alloc (.cells #[.int .i64 (-1)] 3)).heap.size = ng := ⟨_, rfl⟩
  rw [hng] at HS1 ⊢
  have hng' : w1.heap.size + 1 = ng := by rw [← hng]; simp
  clear ho2 hb2 hng HS0 HB0 HRP
  obtain ⟨nc, hnc⟩ : ∃ nc, f.length = nc := ⟨_, rfl⟩
  clear hnc nc
  go_wp2
  go_loopw [22] (fun t22 wr => ∃ (j : Nat), t22 = .int .i64 j ∧ j ≤ l.length ∧ Sep wr w.heap.size ([⟨3, 1, .slice (some ⟨lg, 0, none⟩) l.length lc, l.length, ints (nats l)⟩] ++ ⟨3, 1, .slice (some ⟨ng, 0, none⟩) f.length f.length, f.length, ints (numsI l j f.length)⟩ :: []) ∧ Below w.heap.size w wr) (fun t22 _ => l.length - (intOf t22).toNat)
  case atStart => exact ⟨0, rfl, by omega, HS1.out, HB1.out⟩
  case round =>
    obtain ⟨j, rfl, hj, hsep, hB⟩ := hrel
    have HSEP := hid hsep
    clear hsep HS1 HB1
    by_cases hlt : j < l.length
    · obtain ⟨k, hk⟩ : ∃ k, l[j]? = some k := ⟨_, List.getElem?_eq_getElem hlt⟩
      have hkf : k < f.length := ((HL.out.2 k).1 (List.mem_of_getElem? hk)).lt HG.out
      have c1 : wr.cell? ⟨lg, j, none⟩ = some (.int .i64 (k : Int)) := rowT_at (sep1 HSEP.out) rfl (by simp [ints, nats, hk])
      have hlen := numsI_length l j f.length
      obtain ⟨u, hu⟩ : ∃ u, wr.cell? ⟨ng, k, none⟩ = some u := ⟨_, rowT_at (sep2 HSEP.out) rfl (List.getElem?_eq_getElem (by rw [ints_length, hlen]; exact hkf))⟩
      have fz := rowT_frz (sep2 HSEP.out) rfl k
      have hst := Sep.store [⟨3, 1, .slice (some ⟨lg, 0, none⟩) l.length lc, l.length, ints (nats l)⟩] HSEP.out k (.int .i64 (j : Int))
      have ehs : (ints (numsI l j f.length)).set k (.int .i64 (j : Int)) = ints (numsI l (j + 1) f.length) := by
        rw [numsI_succ HL.out.1 hk hkf]; simp [ints, List.map_set]
      rw [ehs] at hst
      have HST := hid hst
      have HBS := hid (hB.setCell (p := ⟨ng, k, none⟩) ((sep2 HSEP.out).lt ng rfl).1 (.int .i64 (j : Int)))
      clear hst ehs hlen hk
      go_wp2
      go_roundw
      case rel => exact ⟨j + 1, by go_num, by omega, HST.out, HBS.out⟩
      case measure => simp [intOf]; omega
    · obtain rfl : j = l.length := by omega
      obtain ⟨nc, hnc⟩ : ∃ nc, f.length = nc := ⟨_, rfl⟩
      have HSL : Hid (Sep wr w.heap.size (r2 l (some ⟨lg, 0, none⟩) lc f.length (some ⟨ng, 0, none⟩) f.length)) := by
        have := HSEP.out
        rw [numsI_end] at this
        exact this
      have HBL := hid hB
      clear HSEP hlt hB hnc nc
      go_wp2
      go_loopw [8, 34] (fun t8 t wr => ∃ (i : Nat) (zs : List BV), t = .int .i64 i ∧ i ≤ l.length ∧ zs.length = i ∧ Sep wr w.heap.size (r2 l (some ⟨lg, 0, none⟩) lc f.length (some ⟨ng, 0, none⟩) f.length ++ rowsB t8 zs) ∧ blks zs = tr2 f l i ∧ Below w.heap.size w wr) (fun _ t _ => l.length - (intOf t).toNat)
      case atStart =>
        refine ⟨0, [], rfl, by omega, rfl, ?_, by simp [blks, tr2], HBL.out⟩
        refine Sep.append HSL.out (Below.refl _ _) HBL.out.size ⟨fun x hx => ?_, by simp [rowsB]⟩
        simp only [rowsB, List.flatMap_nil, List.mem_cons, List.not_mem_nil, or_false] at hx
        subst hx
        exact World.ownsRow_nil _ _ _ _
      case round =>
        obtain ⟨i, zs, rfl, hi, hzl, hsep, hzs, hB⟩ := hrel
        have HSEP := hid hsep
        have HZ := hid (And.intro hzs hzl)
        obtain ⟨va, vc, rfl⟩ := slice_of_owned (sepIn (e := 60) (size := 4) (n := zs.length) (xs := flatB zs) hsep (List.mem_append_right _ (List.mem_cons_self ..)))
        clear hzs HSL HBL
        by_cases hlt : i < l.length
        · obtain ⟨k, hk⟩ : ∃ k, l[i]? = some k := ⟨_, List.getElem?_eq_getElem hlt⟩
          have hkf : k < f.length := ((HL.out.2 k).1 (List.mem_of_getElem? hk)).lt HG.out
          have c1 : wr.cell? ⟨lg, i, none⟩ = some (.int .i64 (k : Int)) := rowT_at (sepIn (v := .slice (some ⟨lg, 0, none⟩) l.length lc) (n := l.length) (xs := ints (nats l)) (e := 3) (size := 1) hsep (by simp [r2])) rfl (by simp [ints, nats, hk])
          obtain ⟨cs, go, test, ns, ca, cc, xa, xc, d0, d1, d2, d3, l1, l2, HR, HX⟩ := HA.out wr hB k hkf
          have hcs : cs.length ≤ 1048576 ∧ ns.length ≤ 1048576 := by have := len_le_sumB HX.out; have := HSM.out; simp only [] at *; omega
          have HK := hid hk
          clear hk hsep hzl
          go_wp2_with fail
          refine (copyBlock_any go test cs ns ca xa cc xc _ hcs.1 hcs.2 (HR.out.1.below hB) (HR.out.2.below hB)).mono ?_
          rintro e w2 ⟨pa, pc, qa, qc, rfl, hs2, hb2⟩
          have hS2 := HSEP.out.append hb2 hB.size hs2
          have hbx : (cellOR 60 4 w2.heap.size [.slice pa cs.length pc, .int .i64 go, .int .i64 test, .slice qa ns.length qc]).own (w2.alloc (.cells #[.slice pa cs.length pc, .int .i64 go, .int .i64 test, .slice qa ns.length qc] 60)) w2.heap.size := cell_own (heap_alloc_new w2 _) rfl (Nat.le_refl _)
          have HS4 := hid (hS2.append (below1 w2 (.cells #[.slice pa cs.length pc, .int .i64 go, .int .i64 test, .slice qa ns.length qc] 60)) (bstep' hB hb2).size (sep_one hbx))
          have HB3 := hid (bstep' (bstep' hB hb2) (below1 w2 (.cells #[.slice pa cs.length pc, .int .i64 go, .int .i64 test, .slice qa ns.length qc] 60)))
          clear hs2 hb2 hS2 hbx c1 d0 d1 d2 d3
          obtain ⟨L0, hL0⟩ : ∃ L0, r2 l (some ⟨lg, 0, none⟩) lc f.length (some ⟨ng, 0, none⟩) f.length ++ rowsB (.slice va zs.length vc) zs ++ [⟨86, 6, .slice pa cs.length pc, cs.length, flatF cs⟩] = L0 := ⟨_, rfl⟩
          have HS5 : Hid (Sep (w2.alloc (.cells #[.slice pa cs.length pc, .int .i64 go, .int .i64 test, .slice qa ns.length qc] 60)) w.heap.size (L0 ++ ⟨3, 1, .slice qa ns.length qc, ns.length, ints (half l ns 0)⟩ :: [cellOR 60 4 w2.heap.size [.slice pa cs.length pc, .int .i64 go, .int .i64 test, .slice qa ns.length qc]])) := by
            show Sep _ _ _
            rw [← hL0, half_zero]
            have := HS4.out
            simpa [rowsOf] using this
          have HL0 := hid hL0
          obtain ⟨bx, hbx⟩ : ∃ bx, w2.heap.size = bx := ⟨_, rfl⟩
          rw [hbx] at HS5
          clear hL0 HS4 HSEP
          go_wp2
          go_loopw [46] (fun t wi => ∃ (q : Nat), t = .int .i64 q ∧ q ≤ ns.length ∧ Sep wi w.heap.size (L0 ++ ⟨3, 1, .slice qa ns.length qc, ns.length, ints (half l ns q)⟩ :: [cellOR 60 4 bx [.slice pa cs.length pc, .int .i64 go, .int .i64 test, .slice qa ns.length qc]]) ∧ Below w.heap.size w wi) (fun t _ => ns.length - (intOf t).toNat)
          case atStart => exact ⟨0, rfl, by omega, HS5.out, HB3.out⟩
          case round =>
            obtain ⟨q, rfl, hq, hsq, hBq⟩ := hrel
            have HSQ := hid hsq
            clear hsq HS5 HB3
            have e3 : wr.cell? ⟨bx, 3, none⟩ = some (.slice qa ns.length qc) := HSQ.out.cell (x := cellOR 60 4 bx [.slice pa cs.length pc, .int .i64 go, .int .i64 test, .slice qa ns.length qc]) (by simp) rfl (by simp)
            by_cases hql : q < ns.length
            · have hoq := sepIn (e := 3) (size := 1) (v := .slice qa ns.length qc) (n := ns.length) (xs := ints (half l ns q)) HSQ.out (by simp)
              obtain ⟨qg, rfl⟩ := own_addr hoq (by omega)
              obtain ⟨y, hy⟩ : ∃ y, ns[q]? = some y := ⟨_, List.getElem?_eq_getElem hql⟩
              obtain ⟨x, hyn, hxf, hxl⟩ := nat_of_next HG.out HX.out hy
              subst hyn
              have hhq : (half l ns q)[q]? = some (x : Int) := by rw [half_at l ns q hql]; exact hy
              have e4 : wr.cell? ⟨qg, q, none⟩ = some (.int .i64 (x : Int)) := rowT_at hoq rfl (by simp [ints, hhq])
              have e5 := rowT_frz hoq rfl q
              have hon := sepIn (e := 3) (size := 1) (v := .slice (some ⟨ng, 0, none⟩) f.length f.length) (n := f.length) (xs := ints (numsJ l f.length)) HSQ.out (by rw [← HL0.out]; simp [r2])
              have e6 : wr.cell? ⟨ng, x, none⟩ = some (.int .i64 (numOf l x)) := rowT_at hon rfl (by simp [ints, numsJ_at l f.length x hxf])
              have hst := Sep.store L0 HSQ.out q (.int .i64 (numOf l x))
              have ehs : (ints (half l ns q)).set q (.int .i64 (numOf l x)) = ints (half l ns (q + 1)) := by
                rw [← half_set l ns q x hy]; simp [ints, List.map_set]
              rw [ehs] at hst
              have HST := hid hst
              obtain ⟨nx, hnx⟩ : ∃ nx, numOf l x = nx := ⟨_, rfl⟩
              rw [hnx] at e6 HST
              clear hoq hon hst ehs hhq hy hxl hnx
              go_wp2
              go_region
              all_goals
                go_wp2
                go_roundw
                case rel => exact ⟨q + 1, by go_num, by omega, Sep.drew HST.out, (hBq.setCell (p := ⟨qg, q, none⟩) (HSQ.out.size (x := ⟨3, 1, .slice (some ⟨qg, 0, none⟩) ns.length qc, ns.length, ints (half l ns q)⟩) (by simp) rfl).1 _).drew⟩
                case measure => simp [intOf]; omega
            · obtain rfl : q = ns.length := by omega
              have g0 : wr.cell? ⟨bx, 0, none⟩ = some (.slice pa cs.length pc) := HSQ.out.cell (x := cellOR 60 4 bx [.slice pa cs.length pc, .int .i64 go, .int .i64 test, .slice qa ns.length qc]) (by simp) rfl (by simp)
              have g1 : wr.cell? ⟨bx, 1, none⟩ = some (.int .i64 go) := HSQ.out.cell (x := cellOR 60 4 bx [.slice pa cs.length pc, .int .i64 go, .int .i64 test, .slice qa ns.length qc]) (by simp) rfl (by simp)
              have g2 : wr.cell? ⟨bx, 2, none⟩ = some (.int .i64 test) := HSQ.out.cell (x := cellOR 60 4 bx [.slice pa cs.length pc, .int .i64 go, .int .i64 test, .slice qa ns.length qc]) (by simp) rfl (by simp)
              have HS6 : Hid (Sep (wr.alloc (.cells #[.slice pa cs.length pc, .int .i64 go, .int .i64 test, .slice qa ns.length qc] 60)) w.heap.size (r2 l (some ⟨lg, 0, none⟩) lc f.length (some ⟨ng, 0, none⟩) f.length ++ ⟨60, 4, .slice va zs.length vc, zs.length, flatB zs⟩ :: (zs.flatMap rowsOf ++ rowsOf ⟨⟨cs, go, test, newNext l ns⟩, .slice pa cs.length pc, .slice qa ns.length qc⟩))) := by
                have h1 := Sep.below HSQ.out (below1 wr (.cells #[.slice pa cs.length pc, .int .i64 go, .int .i64 test, .slice qa ns.length qc] 60))
                rw [half_end, ← HL0.out] at h1
                refine Sep.sub h1 ?_
                simp [rowsB, rowsOf, newNext_length]
              have HN6 := hid (News.block wr pa qa cs.length pc ns.length qc go test _ rfl)
              have HB6 := hid (bstep' hBq (below1 wr (.cells #[.slice pa cs.length pc, .int .i64 go, .int .i64 test, .slice qa ns.length qc] 60)))
              have hzn : zs.length ≤ 64 := by have := HZ.out.2; omega
              clear HSQ
              go_wp2_with (at_builtin; refine wpList_append_sep eltBlock rfl _ _ rfl w.heap.size (r2 l (some ⟨lg, 0, none⟩) lc f.length (some ⟨ng, 0, none⟩) f.length) HS6.out rfl HN6.out rfl (by omega) HB6.out.size ?_)
              intro va2 vc2 w7 hs7 hb7 hg7
              have HS7 := hid hs7
              have HB7 := hid (HB6.out.trans hb7)
              clear hs7 hb7 hg7 HS6 HN6 HB6
              go_wp2
              go_roundw
              case rel =>
                refine ⟨i + 1, zs ++ [⟨⟨cs, go, test, newNext l ns⟩, .slice pa cs.length pc, .slice qa ns.length qc⟩], by go_num, by omega, by simp [HZ.out.2], ?_, ?_, HB7.out⟩
                · have := HS7.out
                  have e1 : rowsB (.slice va2 (zs.length + 1) vc2) (zs ++ [⟨⟨cs, go, test, newNext l ns⟩, .slice pa cs.length pc, .slice qa ns.length qc⟩]) = ⟨60, 4, .slice va2 (zs.length + 1) vc2, zs.length + 1, flatB zs ++ [.slice pa cs.length pc, .int .i64 go, .int .i64 test, .slice qa ns.length qc]⟩ :: (zs.flatMap rowsOf ++ rowsOf ⟨⟨cs, go, test, newNext l ns⟩, .slice pa cs.length pc, .slice qa ns.length qc⟩) := by
                    simp [rowsB, flatB_append, flatB, cellsB]
                  rw [e1]
                  exact this
                · have e2 : tr2 f l (i + 1) = tr2 f l i ++ [newBlk l ⟨cs, go, test, ns⟩] := trimB_take HK.out HX.out
                  rw [e2, ← HZ.out.1]
                  simp [blks, newBlk]
              case measure => simp [intOf]; omega
        · obtain rfl : i = l.length := by omega
          go_wp2
          go_ret2
          refine ⟨_, _, _, zs, l, rfl, HL.out, Sep.sub HSEP.out (by simp [r2]), ?_, hB⟩
          rw [HZ.out.1]
          unfold tr2 trimB
          rw [List.take_of_length_le (Nat.le_refl _)]
end Go.Proofs.YtbibcjhfiopgdaaDoor
