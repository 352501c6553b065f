/- The model's draw of a graph: whatever bytes it draws from, what it makes is a list of lists in memory of its own. -/
import Derived.Test.YtiadmmnnbnamjaaGreatQ7
import Derived.Test.YtiadmmnnbnamjaaGreatCopy7
import Derived.Test.YtiadmmnnbnamjaaGreatPost7
import Derived.Deep.RegionHeldLaw
namespace Go.Proofs.YtiadmmnnbnamjaaGreat
open Go.RowKit
set_option linter.unusedVariables false
set_option linter.unusedSimpArgs false
set_option maxRecDepth 100000

theorem Sep.aside' {w w' : World} {n B : Nat} {l : List OR} (h : Sep w n l) (hg : w.grownBy w' (some B)) (hB : B < n) : Sep w' n l :=
  ⟨fun x hx => (h.1 x hx).kept hg (by
    have hlt := (h.1 x hx).lt
    by_cases e : x.v.ownBlock = none
    · exact .inl e
    · exact .inr (fun e' => by have := (hlt B e').1; omega)), h.2⟩
theorem cell_grown {w w' : World} {b o B : Nat} {v : Value} (h : w.cell? ⟨b, o, none⟩ = some v) (hg : w.grownBy w' (some B)) (hn : b ≠ B) : w'.cell? ⟨b, o, none⟩ = some v := hg.cell h (fun e => hn (by simpa using e))
theorem frozen_grown {w w' : World} {b o B : Nat} (hb : b < w.heap.size) (hg : w.grownBy w' (some B)) (hn : b ≠ B) : w'.frozen? ⟨b, o, none⟩ = w.frozen? ⟨b, o, none⟩ := by
  have := hg.block b hb (fun e => hn (by simpa using e))
  simp [World.frozen?, this]
/-- a graph that is being made, and the reader beside it -/
structure GSt (w wr : World) (n0 B K : Nat) (oa : Option Addr) (oc : Nat) (ys : List LV) : Prop where
  made : Made wr (w.heap.size + 1) [⟨25, 1, .slice (some ⟨w.heap.size + 1, 0, none⟩) 1 1, 1, [.slice oa ys.length oc]⟩] (.slice oa ys.length oc) ys
  few : ∀ y ∈ ys, y.r.length ≤ 3
  grown : w.grownBy wr (some B)
  cur : Cur wr n0 B K
  size : w.heap.size + 2 ≤ wr.heap.size
  box : wr.cell? ⟨w.heap.size, 0, none⟩ = some (.slice none 0 0)
  frz : wr.frozen? ⟨w.heap.size, 0, none⟩ = false
theorem GSt.on {w wr w' : World} {n0 B K K' : Nat} {oa : Option Addr} {oc : Nat} {ys : List LV} (h : GSt w wr n0 B K oa oc ys) (hB : B < w.heap.size) (hg : wr.grownBy w' (some B)) (hc : Cur w' n0 B K') : GSt w w' n0 B K' oa oc ys where
  made := Sep.aside' h.made hg (by omega)
  few := h.few
  grown := grownBy_trans h.grown hg
  cur := hc
  size := Nat.le_trans h.size hg.size
  box := cell_grown h.box hg (by omega)
  frz := by rw [frozen_grown (by have := h.size; omega) hg (by omega)]; exact h.frz
theorem made_start (w : World) (ob : Nat) (h : w.heap[ob]? = some (.cells #[.slice none 0 0] 25 (0, 0))) : Made w ob [⟨25, 1, .slice (some ⟨ob, 0, none⟩) 1 1, 1, [.slice none 0 0]⟩] (.slice none 0 0) [] := by
  refine ⟨fun y hy => ?_, by simp [apt, Value.ownBlock]⟩
  simp only [List.cons_append, List.nil_append, List.map_nil, List.mem_cons, List.not_mem_nil, or_false] at hy
  rcases hy with rfl | rfl
  · exact cell_own (cs := #[.slice none 0 0]) h rfl (Nat.le_refl _)
  · exact World.ownsRow_nil _ _ _ _
theorem cur_below {w w' : World} {n0 B K : Nat} (h : Cur w n0 B K) (hb : Below w.heap.size w w') : Cur w' n0 B K := h.grown (grownBy_of_below hb none) (fun r e => by cases e)
theorem GSt.start {w : World} {n0 B K : Nat} (h : Cur w n0 B K) : GSt w ((w.alloc (.cells #[.slice none 0 0] 25)).alloc (.cells #[.slice none 0 0] 25)) n0 B K none 0 [] where
  made := by
    refine made_start _ _ ?_
    have := heap_alloc_new (w.alloc (.cells #[.slice none 0 0] 25)) (.cells #[.slice none 0 0] 25)
    rwa [show (w.alloc (.cells #[.slice none 0 0] 25)).heap.size = w.heap.size + 1 by simp] at this
  few := by simp
  grown := grownBy_of_below (below2 w _ _) _
  cur := cur_below h (below2 w _ _)
  size := by simp
  box := by simp [go_sem]
  frz := by simp [go_sem]
theorem frozen_setCell (w : World) (b j : Nat) (u : Value) (a : Addr) : (w.setCell ⟨b, j, none⟩ u).frozen? a = w.frozen? a := by simp [go_sem]

theorem Sep.append' {w w' : World} {B : Nat} {l m : List OR} (h : Sep w B l) (h' : Sep w' B l) (hB : B ≤ w.heap.size) (hm : Sep w' w.heap.size m) : Sep w' B (l ++ m) := by
  refine ⟨fun x hx => ?_, List.pairwise_append.2 ⟨h'.2, hm.2, fun x hx y hy => ?_⟩⟩
  · rcases List.mem_append.1 hx with hx | hx
    · exact h'.1 x hx
    · exact owns_mono (hm.1 x hx) hB
  · by_cases e : x.v.ownBlock = none
    · exact .inl e
    · refine .inr (fun e' => ?_)
      obtain ⟨k, hk⟩ := Option.ne_none_iff_exists'.1 e
      have h1 := (h.1 x hx).lt k hk
      have h2 := (hm.1 y hy).lt k (e' ▸ hk)
      omega
theorem Made.with' {w w' : World} {B : Nat} {pre : List OR} {ov : Value} {ys : List LV} (h : Made w B pre ov ys) (h' : Made w' B pre ov ys) (hB : B ≤ w.heap.size) (y : LV) (hy : w'.ownsRow w.heap.size 3 1 y.v y.r.length (ints y.r)) : Sep w' B (pre ++ ⟨35, 1, ov, ys.length, vals ys⟩ :: (ys ++ [y]).map rowL) := by
  have := Sep.append' h h' hB (m := [rowL y]) ⟨by intro x hx; simp at hx; subst hx; exact hy, by simp⟩
  simpa using this
theorem grown_below {w w1 w2 : World} {B C : Nat} (h : w.grownBy w1 (some B)) (hb : Below C w1 w2) (hC : w.heap.size ≤ C) : w.grownBy w2 (some B) :=
  ⟨hb.os.trans h.os, hb.tape.trans h.tape, hb.output.trans h.output, Nat.le_trans h.size hb.size, fun k hk hn => (hb.block k (by omega)).trans (h.block k hk hn)⟩
theorem Cur.belowC {w w' : World} {n0 B K C : Nat} (h : Cur w n0 B K) (hb : Below C w w') (hC : B < C) : Cur w' n0 B K := by
  obtain ⟨hB, a, zs, cap, t, sd, hx, h0, h1, hl, hz, hrow⟩ := h
  refine ⟨hB, a, zs, cap, t, sd, by rw [hb.block B hC]; exact hx, h0, h1, hl, hz, ?_⟩
  rcases hrow with h | ⟨b, off, ha, hbn, hc⟩
  · exact .inl h
  · exact .inr ⟨b, off, ha, hbn, fun i hi => by rw [hb.cell (p := ⟨b, off + i, none⟩) (by show b < C; omega)]; exact hc i hi⟩

theorem own_addr {w : World} {B n c : Nat} {e : TypeId} {size : Nat} {a : Option Addr} {xs : List Value} (h : w.ownsRow B e size (.slice a n c) n xs) (hn : 0 < n) : ∃ g, a = some ⟨g, 0, none⟩ ∧ B ≤ g ∧ g < w.heap.size := by
  have hlt := h.lt
  obtain ⟨_, h | ⟨g, cap, cs, e1, hb, h2, _⟩⟩ := h
  · exfalso
    rcases h with ⟨h, h0⟩
    injection h with h1 h2 h3
    omega
  · injection e1 with h1 h2 h3
    subst h1
    exact ⟨g, rfl, hlt g rfl⟩

theorem fin18 {w w8 w10 w9 : World} {n0 B K K' g oc vc0 vc9 T : Nat} {r0 : List Int} {va0 va9 : Option Addr} {yt : List LV} {r : Int} (HG : GSt w w8 n0 B K (some ⟨g, 0, none⟩) oc (⟨r0, .slice va0 r0.length vc0⟩ :: yt)) (hT : (⟨r0, .slice va0 r0.length vc0⟩ :: yt : List LV).length = T) (hBl : B < w.heap.size) (hc10 : Cur w10 n0 B K') (hg10 : w8.drew.grownBy w10 (some B))
    (hs9 : Sep w9 (w.heap.size + 1) ([⟨25, 1, .slice (some ⟨w.heap.size + 1, 0, none⟩) 1 1, 1, [.slice (some ⟨g, 0, none⟩) T oc]⟩, ⟨35, 1, .slice (some ⟨g, 0, none⟩) T oc, T, vals (⟨r0, .slice va0 r0.length vc0⟩ :: yt)⟩] ++ ⟨3, 1, .slice va9 (r0.length + 1) vc9, r0.length + 1, ints r0 ++ [.int .i64 r]⟩ :: yt.map rowL)) (hb9 : Below (w.heap.size + 1) (w10.alloc (.cells #[.int .i64 r] 3)) w9) :
    (w9.setCell ⟨g, 0, none⟩ (.slice va9 (r0.length + 1) vc9)).cell? ⟨w.heap.size + 1, 0, none⟩ = some (.slice (some ⟨g, 0, none⟩) T oc) ∧
    (w9.setCell ⟨g, 0, none⟩ (.slice va9 (r0.length + 1) vc9)).cell? ⟨w.heap.size, 0, none⟩ = some (.slice none 0 0) ∧
    (w9.setCell ⟨g, 0, none⟩ (.slice va9 (r0.length + 1) vc9)).frozen? ⟨w.heap.size, 0, none⟩ = false ∧
    Hid (OwnL (w9.setCell ⟨g, 0, none⟩ (.slice va9 (r0.length + 1) vc9)) (w.heap.size + 1) (.slice (some ⟨g, 0, none⟩) T oc) (⟨r0 ++ [r], .slice va9 (r0.length + 1) vc9⟩ :: yt) ∧ Cur (w9.setCell ⟨g, 0, none⟩ (.slice va9 (r0.length + 1) vc9)) n0 B K' ∧ w.grownBy (w9.setCell ⟨g, 0, none⟩ (.slice va9 (r0.length + 1) vc9)) (some B)) := by
  have hsz := HG.size
  have z10 : w.heap.size + 2 ≤ w10.heap.size := Nat.le_trans hsz hg10.size
  have hout := hs9.1 ⟨35, 1, .slice (some ⟨g, 0, none⟩) T oc, T, vals (⟨r0, .slice va0 r0.length vc0⟩ :: yt)⟩ (by simp)
  have hgl := (hout.lt g rfl).1
  have hbx := hs9.1 ⟨25, 1, .slice (some ⟨w.heap.size + 1, 0, none⟩) 1 1, 1, [.slice (some ⟨g, 0, none⟩) T oc]⟩ (by simp)
  have hne : w.heap.size + 1 ≠ g := by
    have h2 := hs9.2
    simp only [List.cons_append, List.pairwise_cons] at h2
    have h3 := h2.1 ⟨35, 1, .slice (some ⟨g, 0, none⟩) T oc, T, vals (⟨r0, .slice va0 r0.length vc0⟩ :: yt)⟩ (by simp)
    rcases h3 with h3 | h3
    · simp [Value.ownBlock] at h3
    · intro e; apply h3; simp [Value.ownBlock, e]
  have B9 : Below (w.heap.size + 1) w10 w9 := ((below1 w10 _).mono (by omega)).trans hb9
  have B9' := B9.setCell (p := ⟨g, 0, none⟩) (by show w.heap.size + 1 ≤ g; exact hgl) (.slice va9 (r0.length + 1) vc9)
  have hx10 : w10.cell? ⟨w.heap.size, 0, none⟩ = some (.slice none 0 0) := cell_grown (w := w8.drew) HG.box hg10 (by omega)
  refine ⟨set_far (rowT_at hbx rfl rfl) (fun e => hne e.symm), ?_, ?_, ?_, ?_, ?_⟩
  · rw [B9'.cell (p := ⟨w.heap.size, 0, none⟩) (by show w.heap.size < _; omega)]; exact hx10
  · rw [B9'.frozen (p := ⟨w.heap.size, 0, none⟩) (by show w.heap.size < _; omega), frozen_grown (w := w8.drew) (by show w.heap.size < w8.heap.size; omega) hg10 (by omega)]; exact HG.frz
  · have h1 := Sep.store [_] hs9 0 (.slice va9 (r0.length + 1) vc9)
    have h2 := Sep.tail h1
    subst hT
    unfold OwnL rowsL
    simpa [vals, rowL, ints] using h2
  · exact hc10.belowC B9' (by omega)
  · exact grown_below (grownBy_trans (grownBy_trans HG.grown (grownBy_drewN w8 1 _)) hg10) B9' (by omega)

set_option maxHeartbeats 8000000 in
theorem graph7_any (n0 B K : Nat) (w : World) (h : Cur w n0 B K) (hK : K ≤ 100000) :
    Calls Tryz.prog 52 #[.pointer (some ⟨B, 0, none⟩)] w fun e w' => ∃ v ys, e = .returned (.agg #[v]) ∧ OwnL w' w.heap.size v ys ∧ ys.length ≤ 13 ∧ Cur w' n0 B (K + 1000) ∧ w.grownBy w' (some B) := by
  have hBl := h.lt
  have G0 := GSt.start h
  clear h
  go_enter Tryz.func52, Tryz.ntmps52
  go_wp2_with fail
  refine (pick_any n0 B K 7 _ G0.cur (by omega) (by omega) (by omega)).mono ?_
  rintro e w1 ⟨x1, rfl, hx1, hc1, hg1⟩
  have G1 := G0.on hBl hg1 hc1
  clear hc1 hg1 G0
  go_wp2_with fail
  refine (one_any n0 B (K + 2) 20 _ G1.cur (by omega) (by omega) (by omega)).mono ?_
  rintro e w2 ⟨r2, rfl, hc2, hg2⟩
  have G2 := G1.on hBl hg2 hc2
  clear hc2 hg2 G1
  obtain ⟨hx10, hx11⟩ := hx1
  obtain ⟨wn, hwn⟩ : ∃ wn : World, wn = w := ⟨_, rfl⟩
  have join : Hid (∀ x : Int, 0 ≤ x → x ≤ 1 → ∃ N : Nat, 12 + x = N ∧ 1 ≤ N ∧ N ≤ 13) := fun x h0 h1 => ⟨(12 + x).toNat, by omega, by omega, by omega⟩
  cases r2
  all_goals first
    | (go_wp2_with fail
       refine (pick_any n0 B (K + 4) 2 _ G2.cur (by omega) (by omega) (by omega)).mono ?_
       rintro e W ⟨x3, rfl, ⟨hx30, hx31⟩, hc3, hg3⟩
       have GW := G2.on hBl hg3 hc3
       obtain ⟨N, hN, hN1, hN2⟩ := join.out x3 hx30 (by omega)
       clear hc3 hg3 G2
       go_wp2
       clear hN hx30 hx31 join hx10 hx11)
    | (obtain ⟨N, hN, hN1, hN2⟩ : ∃ N : Nat, 1 + x1 = N ∧ 1 ≤ N ∧ N ≤ 13 := ⟨(1 + x1).toNat, by omega, by omega, by omega⟩
       have GW := G2.on hBl (World.grownBy.refl _ _) (G2.cur.more (show K + 2 + 2 ≤ K + 6 by omega))
       clear G2
       go_wp2
       clear hN hx10 hx11 join)
  all_goals
    go_loopw [5] (fun t5 wr => ∃ (k : Nat) (oa : Option Addr) (oc : Nat) (ys : List LV), t5 = .int .i64 k ∧ k ≤ N ∧ ys.length = k ∧ GSt w wr n0 B (K + 6 + 20 * k) oa oc ys) (fun t5 _ => N - (intOf t5).toNat)
    case atStart => exact ⟨0, none, 0, [], rfl, by omega, rfl, GW⟩
    case round =>
      obtain ⟨k, oa, oc, ys, rfl, hk, hyk, gs⟩ := hrel
      have HYK := hid hyk
      have hyl : ys.length ≤ 13 := by omega
      clear hyk GW
      have hh := gs.made.1 ⟨25, 1, .slice (some ⟨w.heap.size + 1, 0, none⟩) 1 1, 1, [.slice oa ys.length oc]⟩ (by simp)
      have co0 : wr.cell? ⟨w.heap.size + 1, 0, none⟩ = some (.slice oa ys.length oc) := rowT_at hh rfl rfl
      clear hh
      by_cases hkt : k < N
      · go_wp2_with fail
        refine (pick_any n0 B (K + 6 + 20 * k) 4 _ gs.cur (by omega) (by omega) (by omega)).mono ?_
        rintro e wi ⟨x4, rfl, ⟨hx40, hx41⟩, hc4, hg4⟩
        obtain ⟨M, rfl⟩ := Int.eq_ofNat_of_zero_le hx40
        have gi := gs.on hBl hg4 hc4
        have ci0 := cell_grown co0 hg4 (by omega)
        clear hc4 hg4 gs co0 hx40
        go_wp2
        go_loopw [6, 7] (fun t6 t7 wq => ∃ (m : Nat) (l : List Nat) (va : Option Addr) (vc : Nat), t7 = .int .i64 m ∧ m ≤ 3 ∧ t6 = .slice va l.length vc ∧ l.length + m ≤ 3 ∧ wq.ownsRow wi.heap.size 3 1 (.slice va l.length vc) l.length (ints (nats l)) ∧ wi.grownBy wq (some B) ∧ Cur wq n0 B (K + 6 + 20 * k + 2 + 4 * (3 - m))) (fun _ t7 _ => (intOf t7).toNat)
        case atStart => exact ⟨M, [], none, 0, rfl, by omega, rfl, by simp; omega, World.ownsRow_nil _ _ _ _, World.grownBy.refl _ _, gi.cur.more (by omega)⟩
        case round =>
          obtain ⟨m, l, va, vc, rfl, hm3, rfl, hlm, ho, hgq, hcq⟩ := hrel
          by_cases hm0 : 0 < m
          · go_wp2_with fail
            refine (pick_any n0 B _ N _ hcq (by omega) (by omega) (by omega)).mono ?_
            rintro e w5 ⟨x5, rfl, ⟨hx50, hx51⟩, hc5, hg5⟩
            obtain ⟨x, rfl⟩ := Int.eq_ofNat_of_zero_le hx50
            have H5 := hid (And.intro ho (And.intro hgq (And.intro hc5 hg5)))
            have hBi : B < wi.heap.size := gi.cur.lt
            clear ho hgq hcq hx50
            go_wp2_with fail
            refine (one_any n0 B _ 2 _ hc5 (by omega) (by omega) (by omega)).mono ?_
            rintro e w6 ⟨r6, rfl, hc6, hg6⟩
            have H6 := hid (And.intro hc6 hg6)
            clear hc5 hg5 hc6 hg6
            obtain ⟨y, hy, hyb⟩ : ∃ y : Nat, ((k : Int) + 1) % (N : Int) = y ∧ y ≤ 1000 := by
              have h0 := Int.emod_nonneg ((k : Int) + 1) (show (N : Int) ≠ 0 by omega)
              have h1 := Int.emod_lt_of_pos ((k : Int) + 1) (show (0 : Int) < N by omega)
              exact ⟨(((k : Int) + 1) % (N : Int)).toNat, by omega, by omega⟩
            have HP : Hid (∀ z : Nat, z ≤ 1000 → Calls Tryz.prog 51 #[.slice va l.length vc, .int .i64 z] w6 fun e w' => PutAns w6 w' wi.heap.size (.slice va l.length vc) l z e) := fun z hz => by
              have g6 := grownBy_trans H5.out.2.2.2 H6.out.2
              refine l1Put_any _ l z wi.heap.size w6 (by omega) (by omega) ?_ (Nat.le_trans H5.out.2.1.size g6.size)
              exact H5.out.1.kept g6 (by
                by_cases e : (Value.slice va l.length vc).ownBlock = none
                · exact .inl e
                · exact .inr (fun e' => by have := (H5.out.1.lt B e').1; omega))
            have hxb : x ≤ 1000 := by omega
            cases r6
            all_goals
              go_wp2_with fail
              refine (HP.out _ (by assumption)).mono ?_
              rintro e w7 ⟨va2, vc2, rfl, ho7, _, hb7⟩
              have HF : Hid (wi.grownBy w7 (some B) ∧ Cur w7 n0 B (K + 6 + 20 * k + 2 + 4 * (3 - m) + 4)) := ⟨grownBy_trans H5.out.2.1 (grownBy_trans (grownBy_trans H5.out.2.2.2 H6.out.2) (grownBy_of_below hb7 _)), cur_below H6.out.1 hb7⟩
              have HO7 := hid ho7
              clear ho7 hb7 HP
              go_wp2
              go_roundw
              case rel => exact ⟨m - 1, _, va2, vc2, by go_num, by omega, rfl, by have := putL_len l y; have := putL_len l x; omega, HO7.out, HF.out.1, HF.out.2.more (by omega)⟩
              case measure => simp [intOf]; omega
          · obtain rfl : m = 0 := by omega
            have gq := gi.on hBl hgq hcq
            have HOy : Hid (wr.ownsRow wi.heap.size 3 1 (.slice va l.length vc) (nats l).length (ints (nats l))) := by rw [nats_length]; exact ho
            have hzi := gi.size
            have HM1 := hid ((Made.with' gi.made gq.made (by omega) ⟨nats l, .slice va l.length vc⟩ HOy.out).below (below1 wr (.cells #[.slice va l.length vc] 35)))
            have HN1 := hid (News.one wr (.slice va l.length vc) 35 _ rfl rfl)
            have hzq := gq.size
            have HZ1 : Hid (w.heap.size + 1 ≤ (wr.alloc (.cells #[.slice va l.length vc] 35)).heap.size) := by show w.heap.size + 1 ≤ _; simp; omega
            have co := cell_grown ci0 hgq (by omega)
            have HGQ := hid gq
            have hl3 : l.length ≤ 3 := by omega
            clear ho hgq hcq HOy gq gi ci0 hlm hm0 hm3
            go_wp2_with (at_builtin; refine wpList_append_sep eltLists rfl _ _ rfl (w.heap.size + 1) [⟨25, 1, .slice (some ⟨w.heap.size + 1, 0, none⟩) 1 1, 1, [.slice oa ys.length oc]⟩] HM1.out rfl HN1.out rfl (by omega) HZ1.out ?_)
            intro va9 vc9 w9 hs9 hb9 hg9
            have hs9' : Sep w9 (w.heap.size + 1) ([⟨25, 1, .slice (some ⟨w.heap.size + 1, 0, none⟩) 1 1, 1, [.slice oa ys.length oc]⟩] ++ ⟨35, 1, .slice va9 (ys.length + 1) vc9, ys.length + 1, vals ys ++ [.slice va l.length vc]⟩ :: (ys ++ ([⟨nats l, .slice va l.length vc⟩] : List LV)).map rowL) := by simpa using hs9
            have hh9 := hs9'.1 ⟨25, 1, .slice (some ⟨w.heap.size + 1, 0, none⟩) 1 1, 1, [.slice oa ys.length oc]⟩ (by simp)
            have c9 : w9.cell? ⟨w.heap.size + 1, 0, none⟩ = some (.slice oa ys.length oc) := rowT_at hh9 rfl rfl
            have f9 : w9.frozen? ⟨w.heap.size + 1, 0, none⟩ = false := rowT_frz hh9 rfl 0
            have HB9 : Hid (Below (w.heap.size + 1) wr w9) := ((below1 wr _).mono (by omega)).trans hb9
            have HS9 := hid hs9'
            clear hs9 hs9' hb9 hg9 hh9 HM1 co
            go_wp2
            go_roundw
            case rel =>
              have hb9 := HB9.out
              have gq := HGQ.out
              refine ⟨k + 1, va9, vc9, ys ++ [⟨nats l, .slice va l.length vc⟩], by go_num, by omega, by rw [List.length_append, HYK.out]; rfl, ?_⟩
              refine ⟨?_, ?_, ?_, ?_, ?_, ?_, ?_⟩
              · have := Sep.store [] HS9.out 0 (.slice va9 (ys.length + 1) vc9)
                rw [List.length_append]
                exact Made.grown (n := 0) this
              · intro y hy
                rcases List.mem_append.1 hy with hy | hy
                · exact gq.few y hy
                · simp only [List.mem_singleton] at hy
                  subst hy
                  show (nats l).length ≤ 3
                  rw [nats_length]; exact hl3
              · exact grown_below gq.grown (hb9.setCell (by show w.heap.size + 1 ≤ w.heap.size + 1; omega) _) (by omega)
              · exact (gq.cur.belowC (hb9.setCell (by show w.heap.size + 1 ≤ w.heap.size + 1; omega) _) (by omega)).more (by omega)
              · have := hb9.size; simp [World.setCell]; omega
              · exact set_far (by rw [hb9.cell (p := ⟨w.heap.size, 0, none⟩) (by show w.heap.size < _; omega)]; exact gq.box) (by omega)
              · rw [frozen_setCell, hb9.frozen (p := ⟨w.heap.size, 0, none⟩) (by show w.heap.size < _; omega)]; exact gq.frz
            case measure => simp [intOf]; omega
      · obtain rfl : k = N := by omega
        go_wp2_with fail
        refine (one_any n0 B _ 30 _ gs.cur (by omega) (by omega) (by omega)).mono ?_
        rintro e w8 ⟨r8, rfl, hc8, hg8⟩
        have g8 := gs.on hBl hg8 hc8
        have c8 := cell_grown co0 hg8 (by omega)
        clear hc8 hg8 gs co0
        have hne1 : ¬ w.heap.size + 1 = w.heap.size := by omega
        cases r8
        · have HG := hid g8
          have x8 := g8.box
          have f8 := g8.frz
          clear g8
          go_wp2
          refine bodyPost_ret (v := .agg #[.slice oa ys.length oc]) (by simp [results, Tryz.results52, go_sem, *]) rfl ⟨_, ys, rfl, ?_, hyl, ?_, ?_⟩
          · have h1 : Sep w8 (w.heap.size + 1) (rowsL (.slice oa ys.length oc) ys) := Sep.tail HG.out.made
            exact Sep.mono (h1.aside (by omega) _) (by omega)
          · exact (HG.out.cur.belowC ((Below.refl _ _).setCell (Nat.le_refl _) _) hBl).more (by omega)
          · exact grown_below HG.out.grown ((Below.refl _ _).setCell (Nat.le_refl _) _) (Nat.le_refl _)
        · obtain ⟨y0, yt, rfl⟩ : ∃ y0 yt, ys = y0 :: yt := by
            cases ys with
            | nil => have := HYK.out; simp at this; omega
            | cons a b => exact ⟨a, b, rfl⟩
          have ho8 := g8.made.1 ⟨35, 1, .slice oa (y0 :: yt).length oc, (y0 :: yt).length, vals (y0 :: yt)⟩ (by simp)
          obtain ⟨g, rfl, hgl, hg8⟩ := own_addr ho8 (by simp)
          have hi8 := g8.made.1 (rowL y0) (by simp)
          obtain ⟨r0, v0⟩ := y0
          obtain ⟨va0, vc0, e0⟩ := slice_of_owned hi8
          have e0' : v0 = .slice va0 r0.length vc0 := e0
          subst e0'
          have cg : w8.cell? ⟨g, 0, none⟩ = some (.slice va0 r0.length vc0) := rowT_at ho8 rfl rfl
          have hr0 := g8.few ⟨r0, .slice va0 r0.length vc0⟩ (by simp)
          simp only [] at hr0
          obtain ⟨T, hT⟩ : ∃ T, (⟨r0, .slice va0 r0.length vc0⟩ :: yt : List LV).length = T := ⟨_, rfl⟩
          have hT1 : T = yt.length + 1 := by rw [← hT]; rfl
          have HG := hid g8
          have x8 := g8.box
          have f8 := g8.frz
          have hwk : IntKind.i64.wrap ((k : Int) + 1) = (k : Int) + 1 := by rw [IntKind.wrap_i64]; omega
          have hp0 := pick_any n0 B _ (IntKind.i64.wrap ((k : Int) + 1)) w8.drew (g8.cur.grown (grownBy_drewN w8 1 none) (fun r e => by cases e)) (by omega) (by omega) (by omega)
          have HP := hid hp0
          clear hp0 hwk
          rw [hT] at c8
          have HS8 : Hid (Sep w8 (w.heap.size + 1) ([⟨25, 1, .slice (some ⟨w.heap.size + 1, 0, none⟩) 1 1, 1, [.slice (some ⟨g, 0, none⟩) T oc]⟩, ⟨35, 1, .slice (some ⟨g, 0, none⟩) T oc, T, vals (⟨r0, .slice va0 r0.length vc0⟩ :: yt)⟩] ++ ⟨3, 1, .slice va0 r0.length vc0, r0.length, ints r0⟩ :: yt.map rowL)) := by
            have h1 := g8.made
            unfold Made at h1
            rw [hT] at h1
            exact h1
          have HT := hid (And.intro hT hT1)
          have hT0 : 0 < T := by omega
          have hT13 : T ≤ 13 := by omega
          clear ho8 hi8 e0 g8 hT hT1 hyl
          have hbw : w.heap.size + 2 ≤ w8.heap.size := HG.out.size
          go_wp2
          refine wp_region_held_drew (S := fun X => X.cell? ⟨w.heap.size + 1, 0, none⟩ = some (.slice (some ⟨g, 0, none⟩) T oc)) (by kernel_rfl) c8 (fun hHeld => ?_)
          refine wpAnyH_take (i := 0) (v := ?_) rfl (by kernel_rfl) (by kernel_rfl) (by kernel_rfl) (fun _ _ _ h => h) (Or.inl ⟨by rfl, ?_⟩) (by assumption) ?_
          rotate_left
          focus (intro w hSw; (try dsimp only at hSw); go_simp; first | done | with_reducible rfl)
          try go_simp
          refine wpAnyH_take (i := 1) (v := ?_) rfl (by kernel_rfl) (by kernel_rfl) (by kernel_rfl) (fun _ _ _ h => h) (Or.inl ⟨by rfl, ?_⟩) (by assumption) ?_
          rotate_left
          focus (intro w hSw; (try dsimp only at hSw); go_simp; first | done | with_reducible rfl)
          try go_simp
          refine wpAnyH_take (i := 2) (v := ?_) rfl (by kernel_rfl) (by kernel_rfl) (by kernel_rfl) (fun _ _ _ h => h) (Or.inl ⟨by rfl, ?_⟩) (by assumption) ?_
          rotate_left
          focus (intro w hSw; (try dsimp only at hSw); go_simp; first | done | with_reducible rfl)
          try go_simp
          refine wpAnyH_take (i := 3) (v := ?_) rfl (by kernel_rfl) (by kernel_rfl) (by kernel_rfl) (fun _ _ _ h => h) (Or.inl ⟨by rfl, ?_⟩) (by assumption) ?_
          rotate_left
          focus (intro w hSw; (try dsimp only at hSw); go_simp; first | done | with_reducible rfl)
          try go_simp
          refine wpAnyH_take (i := 4) (v := ?_) rfl (by kernel_rfl) (by kernel_rfl) (by kernel_rfl) (fun _ _ _ h => h) (Or.inl ⟨by rfl, ?_⟩) (by assumption) ?_
          rotate_left
          focus (intro w hSw; (try dsimp only at hSw); go_simp; first | done | with_reducible rfl)
          try go_simp
          refine wpAnyH_take (i := 6) (v := ?_) rfl (by kernel_rfl) (by kernel_rfl) (by kernel_rfl) (fun _ _ _ h => h) (Or.inl ⟨by rfl, ?_⟩) (by assumption) ?_
          rotate_left
          focus (intro w hSw; (try dsimp only at hSw); go_simp; first | done | with_reducible rfl)
          try go_simp
          refine wpAnyH_take (i := 7) (v := ?_) rfl (by kernel_rfl) (by kernel_rfl) (by kernel_rfl) (fun _ _ _ h => h) (Or.inl ⟨by rfl, ?_⟩) (by assumption) ?_
          rotate_left
          focus (intro w hSw; (try dsimp only at hSw); go_simp; first | done | with_reducible rfl)
          try go_simp
          refine wpAnyH_take (i := 8) (v := ?_) rfl (by kernel_rfl) (by kernel_rfl) (by kernel_rfl) (fun _ _ _ h => h) (Or.inl ⟨by rfl, ?_⟩) (by assumption) ?_
          rotate_left
          focus (intro w hSw; (try dsimp only at hSw); go_simp; first | done | with_reducible rfl)
          try go_simp
          refine wpAnyH_ready (rs := [5, 9]) (by kernel_rfl) (by simp) ?_
          refine AllReadyH.cons rfl (fun K hK => ?_) ?_
          · go_simp
            refine hK.out _ _ c8 (fun hHeld => ?_)
            clear hK K
            try go_simp
            refine wpAnyH_ready (rs := [9]) (by kernel_rfl) (by simp) ?_
            refine AllReadyH.cons rfl (fun K hK => ?_) AllReadyH.nil
            go_simp
            go_at_call 41
            refine HP.out.mono ?_
            rintro e w10 ⟨r, rfl, hr, hc10, hg10⟩
            have c10 := cell_grown (w := w8.drew) c8 hg10 (by omega)
            have d10 := cell_grown (w := w8.drew) cg hg10 (by omega)
            have z10 : w.heap.size + 2 ≤ w10.heap.size := Nat.le_trans hbw hg10.size
            refine hK.out _ _ c10 (fun hHeld => ?_)
            clear hK K
            try go_simp
            refine wpAnyH_ready (rs := [10]) (by kernel_rfl) (by simp) ?_
            refine AllReadyH.cons rfl (fun K hK => ?_) AllReadyH.nil
            go_simp
            refine hK.out _ _ (cell_below c10 (below1 _ _)) (fun hHeld => ?_)
            clear hK K
            try go_simp
            refine wpAnyH_ready (rs := [11]) (by kernel_rfl) (by simp) ?_
            refine AllReadyH.cons rfl (fun K hK => ?_) AllReadyH.nil
            refine step_append_sep eltInt (by rfl) _ _ (by rfl) (w.heap.size + 1) [⟨25, 1, .slice (some ⟨w.heap.size + 1, 0, none⟩) 1 1, 1, [.slice (some ⟨g, 0, none⟩) T oc]⟩, ⟨35, 1, .slice (some ⟨g, 0, none⟩) T oc, T, vals (⟨r0, .slice va0 r0.length vc0⟩ :: yt)⟩] ((Sep.aside' (w := w8.drew) HS8.out hg10 (by omega)).below (below1 w10 (.cells #[.int .i64 r] 3))) (by rfl) (News.one w10 (.int .i64 r) 3 _ rfl rfl) (by rfl) (by omega) (by simp; omega) ?_
            intro va9 vc9 w9 hs9 hb9 hg9
            have f9 : w9.frozen? ⟨g, 0, none⟩ = false := rowT_frz (hs9.1 ⟨35, 1, .slice (some ⟨g, 0, none⟩) T oc, T, vals (⟨r0, .slice va0 r0.length vc0⟩ :: yt)⟩ (by simp)) rfl 0
            have d9 : w9.cell? ⟨g, 0, none⟩ = some (.slice va0 r0.length vc0) := rowT_at (hs9.1 ⟨35, 1, .slice (some ⟨g, 0, none⟩) T oc, T, vals (⟨r0, .slice va0 r0.length vc0⟩ :: yt)⟩ (by simp)) rfl rfl
            have c9 : w9.cell? ⟨w.heap.size + 1, 0, none⟩ = some (.slice (some ⟨g, 0, none⟩) T oc) := rowT_at (hs9.1 ⟨25, 1, .slice (some ⟨w.heap.size + 1, 0, none⟩) 1 1, 1, [.slice (some ⟨g, 0, none⟩) T oc]⟩ (by simp)) rfl rfl
            obtain ⟨q1, q2, q3, q4⟩ := fin18 HG.out HT.out.1 hBl hc10 hg10 hs9 hb9
            clear hs9 hb9 hg9
            refine hK.out _ _ c9 (fun hHeld => ?_)
            clear hK K
            try go_simp
            refine wpAnyH_take (i := 12) (v := ?_) rfl (by kernel_rfl) (by kernel_rfl) (by kernel_rfl) (fun _ _ _ h => h) (Or.inl ⟨by rfl, ?_⟩) (by assumption) ?_
            rotate_left
            focus (intro w hSw; (try dsimp only at hSw); go_simp; first | done | with_reducible rfl)
            try go_simp
            refine wpAnyH_ready (rs := [13]) (by kernel_rfl) (by simp) ?_
            refine AllReadyH.cons rfl (fun K hK => ?_) AllReadyH.nil
            go_simp
            refine hK.out _ _ q1 (fun hHeld => ?_)
            clear hK K
            try go_simp
            refine wpAnyH_done (by kernel_rfl) ?_ _
            clear hHeld HS8 HP
            go_wp2
            refine bodyPost_ret (v := .agg #[.slice (some ⟨g, 0, none⟩) T oc]) (by simp [results, Tryz.results52, go_sem, *]) rfl ⟨_, ⟨r0 ++ [r], .slice va9 (r0.length + 1) vc9⟩ :: yt, rfl, ?_, by have := HT.out.2; simp; omega, ?_, ?_⟩
            · exact Sep.mono (Sep.aside q4.out.1 (by omega) _) (by omega)
            · exact (q4.out.2.1.belowC ((Below.refl _ _).setCell (Nat.le_refl _) _) hBl).more (by omega)
            · exact grown_below q4.out.2.2 ((Below.refl _ _).setCell (Nat.le_refl _) _) (Nat.le_refl _)
          refine AllReadyH.cons rfl (fun K hK => ?_) AllReadyH.nil
          go_simp
          go_at_call 41
          refine HP.out.mono ?_
          rintro e w10 ⟨r, rfl, hr, hc10, hg10⟩
          have c10 := cell_grown (w := w8.drew) c8 hg10 (by omega)
          have d10 := cell_grown (w := w8.drew) cg hg10 (by omega)
          have z10 : w.heap.size + 2 ≤ w10.heap.size := Nat.le_trans hbw hg10.size
          refine hK.out _ _ c10 (fun hHeld => ?_)
          clear hK K
          try go_simp
          refine wpAnyH_ready (rs := [5, 10]) (by kernel_rfl) (by simp) ?_
          refine AllReadyH.cons rfl (fun K hK => ?_) ?_
          · go_simp
            refine hK.out _ _ c10 (fun hHeld => ?_)
            clear hK K
            try go_simp
            refine wpAnyH_ready (rs := [10]) (by kernel_rfl) (by simp) ?_
            refine AllReadyH.cons rfl (fun K hK => ?_) AllReadyH.nil
            go_simp
            refine hK.out _ _ (cell_below c10 (below1 _ _)) (fun hHeld => ?_)
            clear hK K
            try go_simp
            refine wpAnyH_ready (rs := [11]) (by kernel_rfl) (by simp) ?_
            refine AllReadyH.cons rfl (fun K hK => ?_) AllReadyH.nil
            refine step_append_sep eltInt (by rfl) _ _ (by rfl) (w.heap.size + 1) [⟨25, 1, .slice (some ⟨w.heap.size + 1, 0, none⟩) 1 1, 1, [.slice (some ⟨g, 0, none⟩) T oc]⟩, ⟨35, 1, .slice (some ⟨g, 0, none⟩) T oc, T, vals (⟨r0, .slice va0 r0.length vc0⟩ :: yt)⟩] ((Sep.aside' (w := w8.drew) HS8.out hg10 (by omega)).below (below1 w10 (.cells #[.int .i64 r] 3))) (by rfl) (News.one w10 (.int .i64 r) 3 _ rfl rfl) (by rfl) (by omega) (by simp; omega) ?_
            intro va9 vc9 w9 hs9 hb9 hg9
            have f9 : w9.frozen? ⟨g, 0, none⟩ = false := rowT_frz (hs9.1 ⟨35, 1, .slice (some ⟨g, 0, none⟩) T oc, T, vals (⟨r0, .slice va0 r0.length vc0⟩ :: yt)⟩ (by simp)) rfl 0
            have d9 : w9.cell? ⟨g, 0, none⟩ = some (.slice va0 r0.length vc0) := rowT_at (hs9.1 ⟨35, 1, .slice (some ⟨g, 0, none⟩) T oc, T, vals (⟨r0, .slice va0 r0.length vc0⟩ :: yt)⟩ (by simp)) rfl rfl
            have c9 : w9.cell? ⟨w.heap.size + 1, 0, none⟩ = some (.slice (some ⟨g, 0, none⟩) T oc) := rowT_at (hs9.1 ⟨25, 1, .slice (some ⟨w.heap.size + 1, 0, none⟩) 1 1, 1, [.slice (some ⟨g, 0, none⟩) T oc]⟩ (by simp)) rfl rfl
            obtain ⟨q1, q2, q3, q4⟩ := fin18 HG.out HT.out.1 hBl hc10 hg10 hs9 hb9
            clear hs9 hb9 hg9
            refine hK.out _ _ c9 (fun hHeld => ?_)
            clear hK K
            try go_simp
            refine wpAnyH_take (i := 12) (v := ?_) rfl (by kernel_rfl) (by kernel_rfl) (by kernel_rfl) (fun _ _ _ h => h) (Or.inl ⟨by rfl, ?_⟩) (by assumption) ?_
            rotate_left
            focus (intro w hSw; (try dsimp only at hSw); go_simp; first | done | with_reducible rfl)
            try go_simp
            refine wpAnyH_ready (rs := [13]) (by kernel_rfl) (by simp) ?_
            refine AllReadyH.cons rfl (fun K hK => ?_) AllReadyH.nil
            go_simp
            refine hK.out _ _ q1 (fun hHeld => ?_)
            clear hK K
            try go_simp
            refine wpAnyH_done (by kernel_rfl) ?_ _
            clear hHeld HS8 HP
            go_wp2
            refine bodyPost_ret (v := .agg #[.slice (some ⟨g, 0, none⟩) T oc]) (by simp [results, Tryz.results52, go_sem, *]) rfl ⟨_, ⟨r0 ++ [r], .slice va9 (r0.length + 1) vc9⟩ :: yt, rfl, ?_, by have := HT.out.2; simp; omega, ?_, ?_⟩
            · exact Sep.mono (Sep.aside q4.out.1 (by omega) _) (by omega)
            · exact (q4.out.2.1.belowC ((Below.refl _ _).setCell (Nat.le_refl _) _) hBl).more (by omega)
            · exact grown_below q4.out.2.2 ((Below.refl _ _).setCell (Nat.le_refl _) _) (Nat.le_refl _)
          refine AllReadyH.cons rfl (fun K hK => ?_) AllReadyH.nil
          go_simp
          refine hK.out _ _ (cell_below c10 (below1 _ _)) (fun hHeld => ?_)
          clear hK K
          try go_simp
          have d11 : (w10.alloc (.cells #[.int .i64 r] 3)).cell? ⟨g, 0, none⟩ = some (.slice va0 r0.length vc0) := cell_below d10 (below1 _ _)
          refine wpAnyH_ready (rs := [5]) (by kernel_rfl) (by simp) ?_
          refine AllReadyH.cons rfl (fun K hK => ?_) AllReadyH.nil
          go_simp
          refine hK.out _ _ (cell_below c10 (below1 _ _)) (fun hHeld => ?_)
          clear hK K
          try go_simp
          refine wpAnyH_ready (rs := [11]) (by kernel_rfl) (by simp) ?_
          refine AllReadyH.cons rfl (fun K hK => ?_) AllReadyH.nil
          refine step_append_sep eltInt (by rfl) _ _ (by rfl) (w.heap.size + 1) [⟨25, 1, .slice (some ⟨w.heap.size + 1, 0, none⟩) 1 1, 1, [.slice (some ⟨g, 0, none⟩) T oc]⟩, ⟨35, 1, .slice (some ⟨g, 0, none⟩) T oc, T, vals (⟨r0, .slice va0 r0.length vc0⟩ :: yt)⟩] ((Sep.aside' (w := w8.drew) HS8.out hg10 (by omega)).below (below1 w10 (.cells #[.int .i64 r] 3))) (by rfl) (News.one w10 (.int .i64 r) 3 _ rfl rfl) (by rfl) (by omega) (by simp; omega) ?_
          intro va9 vc9 w9 hs9 hb9 hg9
          have f9 : w9.frozen? ⟨g, 0, none⟩ = false := rowT_frz (hs9.1 ⟨35, 1, .slice (some ⟨g, 0, none⟩) T oc, T, vals (⟨r0, .slice va0 r0.length vc0⟩ :: yt)⟩ (by simp)) rfl 0
          have d9 : w9.cell? ⟨g, 0, none⟩ = some (.slice va0 r0.length vc0) := rowT_at (hs9.1 ⟨35, 1, .slice (some ⟨g, 0, none⟩) T oc, T, vals (⟨r0, .slice va0 r0.length vc0⟩ :: yt)⟩ (by simp)) rfl rfl
          have c9 : w9.cell? ⟨w.heap.size + 1, 0, none⟩ = some (.slice (some ⟨g, 0, none⟩) T oc) := rowT_at (hs9.1 ⟨25, 1, .slice (some ⟨w.heap.size + 1, 0, none⟩) 1 1, 1, [.slice (some ⟨g, 0, none⟩) T oc]⟩ (by simp)) rfl rfl
          obtain ⟨q1, q2, q3, q4⟩ := fin18 HG.out HT.out.1 hBl hc10 hg10 hs9 hb9
          clear hs9 hb9 hg9
          refine hK.out _ _ c9 (fun hHeld => ?_)
          clear hK K
          try go_simp
          refine wpAnyH_take (i := 12) (v := ?_) rfl (by kernel_rfl) (by kernel_rfl) (by kernel_rfl) (fun _ _ _ h => h) (Or.inl ⟨by rfl, ?_⟩) (by assumption) ?_
          rotate_left
          focus (intro w hSw; (try dsimp only at hSw); go_simp; first | done | with_reducible rfl)
          try go_simp
          refine wpAnyH_ready (rs := [13]) (by kernel_rfl) (by simp) ?_
          refine AllReadyH.cons rfl (fun K hK => ?_) AllReadyH.nil
          go_simp
          refine hK.out _ _ q1 (fun hHeld => ?_)
          clear hK K
          try go_simp
          refine wpAnyH_done (by kernel_rfl) ?_ _
          clear hHeld HS8 HP
          go_wp2
          refine bodyPost_ret (v := .agg #[.slice (some ⟨g, 0, none⟩) T oc]) (by simp [results, Tryz.results52, go_sem, *]) rfl ⟨_, ⟨r0 ++ [r], .slice va9 (r0.length + 1) vc9⟩ :: yt, rfl, ?_, by have := HT.out.2; simp; omega, ?_, ?_⟩
          · exact Sep.mono (Sep.aside q4.out.1 (by omega) _) (by omega)
          · exact (q4.out.2.1.belowC ((Below.refl _ _).setCell (Nat.le_refl _) _) hBl).more (by omega)
          · exact grown_below q4.out.2.2 ((Below.refl _ _).setCell (Nat.le_refl _) _) (Nat.le_refl _)
end Go.Proofs.YtiadmmnnbnamjaaGreat
