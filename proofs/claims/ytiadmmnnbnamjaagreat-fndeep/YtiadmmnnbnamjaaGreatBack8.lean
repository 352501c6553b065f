/- The program's iterator over the back edges. -/
import Derived.Test.YtiadmmnnbnamjaaGreatRange8
import Derived.BigGuardPartIn
namespace Go.Proofs.YtiadmmnnbnamjaaGreat
open Go Go.RowKit Go.Shelf
attribute [local go_sem] Oper.semAt_some
set_option linter.unusedVariables false
set_option linter.unusedSimpArgs false
set_option maxRecDepth 100000

/-- an edge of a graph, to one of these -/
def isB (P : List (List Nat)) (e : Nat × Nat) : Bool := decide (e.2 ∈ P.getD e.1 [])
def backL (g P : List (List Nat)) : List (Nat × Nat) := (edgesL g).filter (isB P)
theorem filt_map {Pr : Nat × Nat → Prop} (P : List (List Nat)) (l : List { e : Nat × Nat // Pr e }) : (l.filter fun x => isB P x.1).map (·.1) = (l.map (·.1)).filter (isB P) := by
  rw [List.filter_map]
  rfl
theorem stay_only {K : Nat → Prop} {A T : Nat} {W W' : World} (h : Stay K A T W W') : Only (fun k => ¬ K k) W W' :=
  ⟨h.1.os, h.1.tape, h.1.output, h.1.size, fun k _ hk => h.2 k (.inl (Classical.not_not.1 hk))⟩
set_option maxHeartbeats 4000000 in
theorem back_own {g : List (List Nat)} (G : Gr g) (a : Option Addr) (c : Nat) (D : List (List Nat)) (hD : IsDoms g D)
    (n : Nat) (hn : 8 ≤ n) (Bg Bd db dc B0 : Nat) (ys : List LV) (K : Nat → Prop) (w0 w : World) (h : GRow w0 a g) (hb0 : Below w0.heap.size w0 w) (hK0 : ∀ k, k < w0.heap.size → K k) (hKg : K Bg) (hKd : K Bd) (hKw : ∀ k, K k → k < w.heap.size) (hc : w.cell? ⟨Bg, 0, none⟩ = some (.slice a g.length c))
    (hd : w.cell? ⟨Bd, 0, none⟩ = some (.slice (some ⟨db, 0, none⟩) g.length dc)) (hs : OwnS w B0 (.slice (some ⟨db, 0, none⟩) g.length dc) ys) (hys : lists ys = natsL D) (hKs : ∀ x ∈ (⟨60, 1, .slice (some ⟨db, 0, none⟩) g.length dc, ys.length, vals ys⟩ :: ys.map rowL : List OR), ∀ k, x.v.ownBlock = some k → K k) :
    SeqOwn Fence.wide n Tryz.prog 100 #[.pointer (some ⟨Bg, 0, none⟩), .pointer (some ⟨Bd, 0, none⟩)] (fun x : { e : Nat × Nat // Lead g e.1 e.2 } => #[Value.int .i64 (x.1.1 : Int), Value.int .i64 (x.1.2 : Int)]) K (fun zs => zs.map (·.1) = backL g D) (fun pre => pre.map (·.1) <+: backL g D) 144 w := by
  intro l J Jx W hW hprep hown hownx hY
  have hgm := G.most
  have n1 : 1 ≤ n := by omega
  have n2 : 1 ≤ n - 1 := by omega
  have n3 : 1 ≤ n - 1 - 1 := by omega
  have H := hid h
  have HY := hid hY
  have HP := hid (And.intro hprep (And.intro hown hownx))
  have hsW : OwnS W B0 (.slice (some ⟨db, 0, none⟩) g.length dc) ys := Sep.below hs hW
  have hBg : Bg < w.heap.size := hKw _ hKg
  have hBd : Bd < w.heap.size := hKw _ hKd
  have cg : W.cell? ⟨Bg, 0, none⟩ = some (.slice a g.length c) := (hW.cell (p := ⟨Bg, 0, none⟩) hBg).trans hc
  have cd : W.cell? ⟨Bd, 0, none⟩ = some (.slice (some ⟨db, 0, none⟩) g.length dc) := (hW.cell (p := ⟨Bd, 0, none⟩) hBd).trans hd
  have BW : Below w0.heap.size w0 W := hb0.trans (hW.mono hb0.size)
  have bA := below1 W (.cells #[.func (.yield l) #[] #[]] 106)
  have cg1 : (W.alloc (.cells #[.func (.yield l) #[] #[]] 106)).cell? ⟨Bg, 0, none⟩ = some (.slice a g.length c) := cell_below cg bA
  have HSW := hid hsW
  clear h hY hprep hown hownx hs hsW hc hd
  refine callsIn_of_wp_marks Tryz.func100 rfl trivial ?_ rfl
  simp only [Tryz.ntmps100, List.size_toArray, List.length_cons, List.length_nil, Nat.reduceAdd, Nat.reduceSub, Array.replicate_succ, Array.replicate_zero, List.push_toArray, List.append_toArray, List.nil_append, List.cons_append]
  gi_wp2_with (refine ⟨trivial, ?_⟩; gi_at_call 39; refine (callsIn_wide.2 (edgesIn_any _ _ _ _)).mono ?_; rintro e w' ⟨rfl, rfl⟩)
  obtain ⟨X, hX⟩ : ∃ X, ((W.alloc (.cells #[.func (.yield l) #[] #[]] 106)).alloc (.cells #[.slice a g.length c] 25)) = X := ⟨_, rfl⟩
  have zX : X.heap.size = W.heap.size + 2 := by rw [← hX]; simp
  have BWX : Below W.heap.size W X := by rw [← hX]; exact below2 _ _ _
  have gWX : W.grownBy X none := grownBy_of_below BWX _
  have yX : Boxed X W.heap.size 106 (.func (.yield l) #[] #[]) := by rw [← hX]; exact (Boxed.new W 106 _).alloc _
  have xg : X.cell? ⟨W.heap.size + 1, 0, none⟩ = some (.slice a g.length c) := by
    rw [← hX]
    have := Boxed.new (W.alloc (.cells #[.func (.yield l) #[] #[]] 106)) 25 (.slice a g.length c)
    rw [World.size_alloc] at this
    exact this.cell
  have cdX := cell_below cd BWX
  have hsX : OwnS X B0 (.slice (some ⟨db, 0, none⟩) g.length dc) ys := Sep.below HSW.out BWX
  rw [hX]
  have HX := hid (And.intro gWX hsX)
  have hWw := hW.size
  clear hX gWX hsX HSW
  refine range_ownG rfl n1 (gf := 78) (lb := #[.pointer (some ⟨W.heap.size + 1, 0, none⟩)]) rfl trivial (enters_of Tryz.func78 (by kernel_rfl) rfl)
    (edges_own G a c (fun e => Lead g e.1 e.2) (edges_lead G) (order_lt G) (dfs_len G).1 _ (by omega) (W.heap.size + 1) (fun k => k < w0.heap.size ∨ k = W.heap.size + 1) w0 X H.out (BW.trans (BWX.mono BW.size)) (fun k hk => .inl hk) (.inr rfl) (fun k hk => by have := BW.size; omega) xg) (fun k hk => by have := BW.size; omega) (Below.refl _ _) (fun _ => rfl)
    (fun T pre V => (J T (pre.filter fun x => isB D x.1) V ∧ Stay K W.heap.size X.heap.size X V) ∧ T ≤ V.heap.size)
    (fun cd pre V => cd = .ret ∧ Jx (pre.filter fun x => isB D x.1) V)
    (fun T => OwnFrom.and (OwnFrom.and (fun s A B row hs hg hr => HP.out.2.1 _ _ A B row hs hg (fun r e => ⟨by have := (hr r e).1; omega, (hr r e).2⟩)) (stay_own (fun k hk => by have := hKw _ hk; omega) (Nat.le_refl _) (Nat.le_refl _))) (fun s A B row hs hg hr => Nat.le_trans hs hg.size))
    (fun cd s A B row hs hg hr => ⟨hs.1, HP.out.2.2 _ A B row hs.2 hg (fun r e => ⟨by have := (hr r e).1; omega, (hr r e).2⟩)⟩)
    (fun W' hg => ⟨⟨HP.out.1 W' (HX.out.1.trans hg), (Below.refl 0 X).grown hg (by omega) (fun k e => by cases e), fun k hk => hg.block k (by rcases hk with hk | hk; (have := hKw _ hk; omega); omega) (by simp)⟩, Nat.le_refl _⟩)
    (fun x => { tmps := #[Value.func (Fn.yield l) #[] #[], Value.pointer (some { block := Bg, off := 0 }), Value.pointer (some { block := Bd, off := 0 }), Value.pointer (some { block := W.heap.size, off := 0 }), .int .i64 (x.1.1 : Int), .int .i64 (x.1.2 : Int), Value.agg #[Value.slice a g.length c], Value.func (Fn.func 78) #[] #[Value.pointer (some { block := W.heap.size + 1, off := 0 })], .int .i64 (x.1.1 : Int), .int .i64 (x.1.2 : Int), undef, undef, undef, undef, undef, undef, undef, undef, undef, undef, undef, undef, undef], defers := [] }) ?assign ?body ?done ?stop
  case assign =>
    intro l' x V Kc hKc
    gi_wp2
    exact hKc
  case body =>
    rintro l' T pre x V hT ⟨⟨hJ, hst⟩, hTV⟩ hlen
    have hfrom : x.1.1 < g.length := RchW.lt G x.2.1
    obtain ⟨r, hr⟩ : ∃ r, D[x.1.1]? = some r := ⟨_, List.getElem?_eq_getElem (by rw [hD.1]; exact hfrom)⟩
    obtain ⟨rv, hrv⟩ := own_of_lists hys hr
    have hsV : OwnS V B0 (.slice (some ⟨db, 0, none⟩) g.length dc) ys := (stay_only hst).sep HX.out.2 (fun y hy k hk hn => hn (hKs y hy k hk))
    have hro := hsV.1 (rowL ⟨nats r, rv⟩) (List.mem_cons_of_mem _ (List.mem_map_of_mem (List.mem_of_getElem? hrv)))
    simp only [OR.own, rowL, nats_length] at hro
    obtain ⟨ra, rc, e1⟩ := slice_of_owned hro
    subst e1
    have hrr : Row V ra (nats r) := own_row (xs := nats r) (by rw [nats_length]; exact hro)
    have cr : V.cell? ⟨db, x.1.1, none⟩ = some (.slice ra r.length rc) := Sep.cell hsV (List.mem_cons_self ..) rfl (by simp [vals, hrv])
    have yV : V.cell? ⟨W.heap.size, 0, none⟩ = some (.func (.yield l) #[] #[]) := (cell_same (p := ⟨W.heap.size, 0, none⟩) (hst.2 W.heap.size (.inr ⟨Nat.le_refl _, by omega⟩))).trans yX.cell
    have cV : V.cell? ⟨Bd, 0, none⟩ = some (.slice (some ⟨db, 0, none⟩) g.length dc) := (cell_same (p := ⟨Bd, 0, none⟩) (hst.2 _ (.inl hKd))).trans cdX
    have hr12 : r.length ≤ 12 := by
      have h8 := nodup_le (n := g.length) (rising_nodup (hD.2 _ r hr).1) (fun y hy => RchW.lt G (((hD.2 _ r hr).2 y).1 hy).2.1)
      omega
    have hVz := hst.1.size
    have HH := hid (has_any ra rc r x.1.2 V (by omega) hrr (hD.2 _ r hr).1)
    have hfl : (pre.filter fun x => isB D x.1).length < 144 := Nat.lt_of_le_of_lt (List.length_filter_le _ _) hlen
    have HJ := hid (And.intro hJ (And.intro hst hr))
    clear hJ hst hr hrv hsV hro hrr
    by_cases hx : x.1.2 ∈ r
    · have tx : decide (x.1.2 ∈ r) = true := decide_eq_true hx
      have hb : isB D x.1 = true := by unfold isB; rw [List.getD_eq_getElem?_getD, HJ.out.2.2]; exact tx
      have ef : (pre ++ [x]).filter (fun x => isB D x.1) = (pre.filter fun x => isB D x.1) ++ [x] := by simp [List.filter_append, hb]
      rw [tx] at HH
      have HEF := hid ef
      clear tx hb ef hx
      gi_wp2_with (refine ⟨trivial, ?_⟩; gi_at_call 38; refine (CallsIn.inRound l' (callsIn_wide.2 HH.out)).mono ?_; rintro e w1 ⟨rfl, hb1⟩; have y1 := cell_below yV hb1; obtain ⟨fn, tm, asg, bd, hy, hR⟩ := HY.out T (pre.filter fun x => isB D x.1) x w1 (by omega) (HP.out.2.1 T _ V w1 none HJ.out.1 (grownBy_of_below hb1 none) (fun r e => by cases e)) hfl)
      have HRR := hid hR
      clear hR
      refine (RoundIn.deep HRR.out).mono ?_
      have sV1 : Stay K W.heap.size T V w1 := Stay.below hb1 (fun k hk => by have := hKw _ hk; omega) hTV
      have sX1 : Stay K W.heap.size X.heap.size V w1 := Stay.below hb1 (fun k hk => by have := hKw _ hk; omega) (by omega)
      rintro e Z ⟨hkz, (⟨rfl, hjz, hsz⟩ | ⟨rfl, hjz⟩)⟩
      · have HZ := hid (And.intro hkz (And.intro hjz hsz))
        clear hkz hjz hsz
        gi_wp2
        have sZ := sV1.trans HZ.out.2.2
        refine ⟨⟨Nat.le_trans hb1.size HZ.out.1.size, fun k o hB hk ho => HZ.out.1.same k o (by omega) ((hb1.block k (Array.getElem?_eq_some_iff.1 hk).1).trans hk) ho⟩, ⟨sZ.1, fun k hk => sZ.2 k ?_⟩, ⟨by rw [HEF.out]; exact HZ.out.2.1, HJ.out.2.1.trans ⟨sZ.1, fun k hk => sZ.2 k (hk.imp id (fun h => ⟨h.1, by omega⟩))⟩⟩, Nat.le_trans hTV (Nat.le_trans hb1.size HZ.out.1.size)⟩
        rcases hk with (h | h) | h
        · exact .inl (hK0 k h)
        · exact .inr ⟨by omega, by omega⟩
        · exact .inr ⟨by omega, h.2⟩
      · have HZ := hid (And.intro hkz hjz)
        clear hkz hjz
        gi_wp2
        exact ⟨⟨Nat.le_trans hb1.size HZ.out.1.size, fun k o hB hk ho => HZ.out.1.same k o (by omega) ((hb1.block k (Array.getElem?_eq_some_iff.1 hk).1).trans hk) ho⟩, rfl, by rw [HEF.out]; exact HZ.out.2⟩
    · have tx : decide (x.1.2 ∈ r) = false := decide_eq_false hx
      have hb : isB D x.1 = false := by unfold isB; rw [List.getD_eq_getElem?_getD, HJ.out.2.2]; exact tx
      have ef : (pre ++ [x]).filter (fun x => isB D x.1) = (pre.filter fun x => isB D x.1) := by simp [List.filter_append, hb]
      rw [tx] at HH
      have HEF := hid ef
      clear tx hb ef hx
      gi_wp2_with (refine ⟨trivial, ?_⟩; gi_at_call 38; refine (CallsIn.inRound l' (callsIn_wide.2 HH.out)).mono ?_; rintro e w1 ⟨rfl, hb1⟩)
      refine ⟨fun f h => (by cases h), ?_⟩
      refine (‹∀ (a : Act) (w : World), wpListIn _ _ _ _ _ _ a w → _›) _ _ ?_
      gi_wp2
      have sV1 : Stay K W.heap.size X.heap.size V w1 := Stay.below hb1 (fun k hk => by have := hKw _ hk; omega) (by omega)
      refine ⟨(keeps_below hb1).from _, Stay.below hb1 (fun k hk => by rcases hk with h | h; (have := BW.size; omega); omega) hTV, ⟨?_, HJ.out.2.1.trans sV1⟩, Nat.le_trans hTV hb1.size⟩
      rw [HEF.out]
      exact HP.out.2.1 T _ V w1 none HJ.out.1 (grownBy_of_below hb1 none) (fun r e => by cases e)
  case done =>
    rintro Dd T xs V hDd hS ⟨⟨hJ, hst⟩, hTV⟩ hK
    gi_wp2
    refine ⟨by simp, .inl ⟨_, _, rfl, run_takeDeferred hK, ?_⟩⟩
    refine ⟨_, results_none rfl _ _ _, ⟨_, rfl⟩, .inl ⟨xs.filter (fun x => isB D x.1), T, ?_, ?_⟩⟩
    · rw [filt_map, hS]; rfl
    · exact (HP.out.2.1 _).putObj _ hJ (by omega) hK rfl
  case stop =>
    rintro Dd cd pre V hDd hpre ⟨rfl, hJ⟩ hK
    gi_wp2
    refine ⟨by simp, .inl ⟨_, _, rfl, run_takeDeferred hK, ?_⟩⟩
    refine ⟨_, results_none rfl _ _ _, ⟨_, rfl⟩, .inr ⟨pre.filter (fun x => isB D x.1), ?_, ?_⟩⟩
    · rw [filt_map]; exact hpre.filter _
    · exact HP.out.2.2.putObj _ hJ (by omega) hK rfl
end Go.Proofs.YtiadmmnnbnamjaaGreat
