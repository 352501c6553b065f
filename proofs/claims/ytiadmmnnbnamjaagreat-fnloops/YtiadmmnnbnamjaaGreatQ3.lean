/- A range over an iterator that itself goes through another one, where the round may write what lay ahead of the loop. -/
import Derived.Test.YtiadmmnnbnamjaaGreatDoms8
import Derived.BigGuardPartIn
import Derived.Test.YtiadmmnnbnamjaaGreatCopy7
import Derived.Test.YtiadmmnnbnamjaaGreatQ1
import Derived.Deep.RegionHeld
import Derived.Stop.RegionWithIn
import Derived.Test.YtiadmmnnbnamjaaGreatSet7
import Derived.Test.YtiadmmnnbnamjaaGreatQ2
namespace Go.Proofs.YtiadmmnnbnamjaaGreat
section
open Go Go.RowKit Go.Shelf
set_option linter.unusedVariables false
set_option linter.unusedSimpArgs false
set_option maxRecDepth 100000

theorem range_ownG {F : Fence} {n : Nat} {P : Program} {α : Type} {g : Operand} {ps : Array Tmp} {assign body : Code} {Q : Exit → Act → World → Prop} {a : Act} {w : World}
    (hro : F.round = none) (h1 : 1 ≤ n) {gf : Nat} {lb : Array Value} (hg : a.eval g = .func (.func gf) #[] lb) (hFg : F.fn gf) (eg : ∀ args w, (callFunc gf args).run P w = .ok (.enter gf args) w)
    {encs : α → Array Value} {Kb : Nat → Prop} {S Sp : List α → Prop} {N : Nat} {w0 : World} (hseq : SeqOwn F (n - 1) P gf lb encs Kb S Sp N w0) (hKb : ∀ k, Kb k → k < w.heap.size) (hb0 : Below w0.heap.size w0 w) (hps : ∀ x, (encs x).size = ps.size)
    (I : Nat → List α → World → Prop) (Ix : Code → List α → World → Prop) (hI : ∀ T, OwnFrom w.heap.size (I T)) (hIx : ∀ c, OwnFrom w.heap.size (Ix c)) (h0 : ∀ W', w.grownBy W' none → I W'.heap.size [] W') (a₁ : α → Act)
    (hassign : ∀ (l : Nat) (x : α) (W : World) (K : Act → World → Prop), K (a₁ x) W →
      assign.wpIn (F.inRound l) (n - 1 - 1) P (Exit.then K (fun _ _ _ => False)) { tmps := (ps.zip (encs x)).foldl (fun t (p, v) => t.setIfInBounds p v) a.tmps, defers := [] } W)
    (hbody : ∀ (l T : Nat) (pre : List α) (x : α) (W : World), w.heap.size + 2 ≤ T → I T pre W → pre.length < N → body.wpIn (F.inRound l) (n - 1 - 1) P (ownPostG w.heap.size (Stay Kb w.heap.size T) (I T) Ix (pre ++ [x]) W) (a₁ x) W)
    (hdone : ∀ (D T : Nat) (xs : List α) (W : World), w.heap.size ≤ D → S xs → I T xs W → W.heap[D]? = some (.deferred (some [])) → Q .normal { a with defers := { target := .collected D, args := #[] } :: a.defers } W)
    (hstop : ∀ (D : Nat) (c : Code) (pre : List α) (W : World), w.heap.size ≤ D → Sp pre → Ix c pre W → W.heap[D]? = some (.deferred (some [])) → c.wpIn F n P Q { a with defers := { target := .collected D, args := #[] } :: a.defers } W) :
    (Code.rangeFunc g ps assign body).wpIn F n P Q a w := by
  refine wpIn_rangeFunc fun fn hfn => ?_
  rw [hro]
  obtain ⟨mk, hmk⟩ : ∃ mk : LoopState → Option Code → Loop, mk = fun st pe => { state := st, pending := pe, fn, tmps := a.tmps, params := ps, assign, body, defers := w.heap.size } := ⟨_, rfl⟩
  obtain ⟨X, hX⟩ : ∃ X, (w.alloc (.deferred (some []))).alloc (.loop (mk .ready none)) = X := ⟨_, rfl⟩
  have zX : X.heap.size = w.heap.size + 2 := by rw [← hX]; simp
  have lX : X.heap[w.heap.size + 1]? = some (.loop (mk .ready none)) := by
    rw [← hX]
    have := World.alloc_heap_new (w.alloc (.deferred (some []))) (.loop (mk .ready none))
    rwa [World.size_alloc] at this
  have dX : X.heap[w.heap.size]? = some (.deferred (some [])) := by rw [← hX]; exact (Below.heap_alloc _ _ _ (by simp)).trans (World.alloc_heap_new w _)
  have gX : w.grownBy X none := by rw [← hX]; exact (World.grownBy_alloc w _ none).trans (World.grownBy_alloc _ _ none)
  have bX : Below w0.heap.size w0 X := hb0.trans (((Below.refl _ w).grown gX (Nat.le_refl _) (fun k e => by cases e)).mono hb0.size)
  -- what stays of the loop's own two blocks when others turn
  have two : ∀ {o : Obj} {k : Nat} {A B : World} {row : Option Nat}, k < X.heap.size → A.heap[k]? = some o → A.grownBy B row → (∀ r, row = some r → X.heap.size ≤ r ∧ ∃ o : Obj, A.heap[r]? = some o ∧ o.isCells = false) → B.heap[k]? = some o := by
    intro o k A B row hk ho hgr hr
    exact (hgr.block k (Array.getElem?_eq_some_iff.1 ho).1 (fun e => by have := (hr k e.symm).1; omega)).trans ho
  have far : ∀ {A : World} {row : Option Nat}, (∀ r, row = some r → X.heap.size ≤ r ∧ ∃ o : Obj, A.heap[r]? = some o ∧ o.isCells = false) → (∀ r, row = some r → w.heap.size ≤ r ∧ ∃ o : Obj, A.heap[r]? = some o ∧ o.isCells = false) :=
    fun hr r e => ⟨by have := (hr r e).1; omega, (hr r e).2⟩
  refine ⟨w.heap.size + 1, [{ target := .collected w.heap.size, args := #[] }], X, { target := .fn (.func gf) lb, args := #[.func (.yield (w.heap.size + 1)) #[] #[]] }, X, gf, #[.func (.yield (w.heap.size + 1)) #[] #[]] ++ lb, X, ?_, ?_, ?_, ?_, fun _ => h1, ?_⟩
  · rw [← hX, hmk]; exact run_enterLoop_outer _ _ _ _ _
  · simp only [resolve, hg]
    simp [go_sem]
  · intro f' hf'; simp [Target.leads] at hf'; subst hf'; exact hFg
  · simp [invoke, go_sem, eg]
  refine (hseq (w.heap.size + 1)
    (fun T pre W => I T pre W ∧ W.heap[w.heap.size + 1]? = some (.loop (mk .ready none)) ∧ W.heap[w.heap.size]? = some (.deferred (some [])))
    (fun pre W => ∃ c, Ix c pre W ∧ W.heap[w.heap.size + 1]? = some (.loop (mk .done (some c))) ∧ W.heap[w.heap.size]? = some (.deferred (some [])))
    X bX ?prep ?own ?ownx ?round).mono ?_
  case prep =>
    intro W' hgr
    refine ⟨h0 W' (gX.trans hgr), ?_, ?_⟩
    · exact (hgr.block _ (by omega) (by simp)).trans lX
    · exact (hgr.block _ (by omega) (by simp)).trans dX
  case own => exact fun T s A B row hs hgr hr => ⟨hI T s A B row hs.1 hgr (far hr), two (by omega) hs.2.1 hgr hr, two (by omega) hs.2.2 hgr hr⟩
  case ownx =>
    rintro s A B row ⟨c, hc, hl, hk⟩ hgr hr
    exact ⟨c, hIx c s A B row hc hgr (far hr), two (by omega) hl hgr hr, two (by omega) hk hgr hr⟩
  case round =>
    rintro T pre x W hT ⟨hi, hl, hk⟩ hlen
    have hlt : w.heap.size + 1 < W.heap.size := (Array.getElem?_eq_some_iff.1 hl).1
    have hy := run_yield (P := P) (args := encs x) hl (by rw [hmk]; exact hps x)
    rw [hmk] at hy
    refine ⟨fn, _, assign, body, hy, roundIn_of_wpIn hfn (hassign _ x W _ ⟨_, run_beginRound hl (by rw [hmk]), ?_⟩)⟩
    obtain ⟨V, hV⟩ : ∃ V, W.putObj (w.heap.size + 1) (.loop { mk .ready none with state := .busy }) = V := ⟨_, rfl⟩
    have lV : V.heap[w.heap.size + 1]? = some (.loop { mk .ready none with state := .busy }) := by rw [← hV]; exact World.putObj_heap_same hlt
    have dV : V.heap[w.heap.size]? = some (.deferred (some [])) := by rw [← hV]; exact (World.putObj_heap_other (by omega)).trans hk
    have kV : KeepsFrom X.heap.size W V := by rw [← hV]; exact keepsFrom_put _ (by omega)
    have sV : Stay Kb X.heap.size T W V := by rw [← hV]; exact Stay.put _ hl (fun h => by have := hKb _ h; omega) (by omega)
    have iV : I T pre V := by rw [← hV]; exact (hI T).putObj _ hi (by omega) hl rfl
    rw [hV]
    refine wpIn_mono (hbody _ T pre x V (by omega) iV hlen) ?_
    have fin : ∀ (jump : Option Code) (Z : World), KeepsFrom w.heap.size V Z → ∃ Y, (Instr.endRound (w.heap.size + 1) jump).run P Z = .ok (.bool jump.isNone) Y ∧ Y = Z.putObj (w.heap.size + 1) (.loop (mk (if jump.isNone then .ready else .done) jump)) ∧
        Z.heap[w.heap.size + 1]? = some (.loop { mk .ready none with state := .busy }) ∧ Y.heap[w.heap.size + 1]? = some (.loop (mk (if jump.isNone then .ready else .done) jump)) ∧ Y.heap[w.heap.size]? = some (.deferred (some [])) ∧ KeepsFrom X.heap.size W Y := by
      intro jump Z hZ
      have lZ := hZ.same _ _ (by omega) lV rfl
      have := run_endRound (P := P) jump lZ
      refine ⟨_, by rw [hmk] at this ⊢; exact this, rfl, lZ, World.putObj_heap_same (Array.getElem?_eq_some_iff.1 lZ).1, (World.putObj_heap_other (by omega)).trans (hZ.same _ _ (by omega) dV rfl), (kV.trans ⟨hZ.size, fun k o hB => hZ.same k o (by omega)⟩).trans (keepsFrom_put _ (by omega))⟩
    rintro e a3 Z hp
    cases e with
    | normal =>
      obtain ⟨hZ, hst, hi3⟩ := hp
      obtain ⟨Y, hr, hY, lZ, lY, dY, kY⟩ := fin none Z hZ
      refine ⟨_, Y, hr, kY, .inl ⟨rfl, ⟨?_, lY, dY⟩, ?_⟩⟩
      · rw [hY]; exact (hI T).putObj _ hi3 (by omega) lZ rfl
      · rw [hY]; exact (sV.trans (hst.less (by omega))).trans (Stay.put _ lZ (fun h => by have := hKb _ h; omega) (by omega))
    | ret =>
      obtain ⟨hZ, hi3⟩ := hp
      obtain ⟨Y, hr, hY, lZ, lY, dY, kY⟩ := fin (some .ret) Z hZ
      exact ⟨_, Y, hr, kY, .inr ⟨rfl, .ret, by rw [hY]; exact (hIx _).putObj _ hi3 (by omega) lZ rfl, lY, dY⟩⟩
    | exit id =>
      obtain ⟨hZ, hi3⟩ := hp
      obtain ⟨Y, hr, hY, lZ, lY, dY, kY⟩ := fin (some (.exit id)) Z hZ
      exact ⟨_, Y, hr, kY, .inr ⟨rfl, .exit id, by rw [hY]; exact (hIx _).putObj _ hi3 (by omega) lZ rfl, lY, dY⟩⟩
    | goto t =>
      obtain ⟨hZ, hi3⟩ := hp
      obtain ⟨Y, hr, hY, lZ, lY, dY, kY⟩ := fin (some (.goto t)) Z hZ
      exact ⟨_, Y, hr, kY, .inr ⟨rfl, .goto t, by rw [hY]; exact (hIx _).putObj _ hi3 (by omega) lZ rfl, lY, dY⟩⟩
    | panic ch => exact hp.elim
    | outgrown => exact hp.elim
  · rintro e Z ⟨⟨v, rfl⟩, (⟨xs, T, hS, hi, hl, hk⟩ | ⟨pre, hSp, c, hi, hl, hk⟩)⟩
    · exact ⟨none, _, by have := run_endLoop (P := P) hl (by rw [hmk]; simp); rw [hmk] at this; exact this, hdone _ T xs _ (Nat.le_refl _) hS ((hI T).putObj _ hi (by omega) hl rfl) ((World.putObj_heap_other (by omega)).trans hk)⟩
    · exact ⟨some c, _, by have := run_endLoop (P := P) hl (by rw [hmk]; simp); rw [hmk] at this; exact this, hstop _ c pre _ (Nat.le_refl _) hSp ((hIx c).putObj _ hi (by omega) hl rfl) ((World.putObj_heap_other (by omega)).trans hk)⟩
end

section
open Go Go.RowKit Go.Shelf
attribute [local go_sem] Oper.semAt_some
set_option linter.unusedVariables false
set_option linter.unusedSimpArgs false
set_option maxRecDepth 100000

/-- an edge of a graph, to one of these -/
def isB (P : List (List Nat)) (e : Nat × Nat) : Bool := decide (e.2 ∈ P.getD e.1 [])
def backL (g P : List (List Nat)) : List (Nat × Nat) := (edgesL g).filter (isB P)
theorem filt_map {Pr : Nat × Nat → Prop} (P : List (List Nat)) (l : List { e : Nat × Nat // Pr e }) : (l.filter fun x => isB P x.1).map (·.1) = (l.map (·.1)).filter (isB P) := by
  rw [List.filter_map]
  rfl
theorem stay_only {K : Nat → Prop} {A T : Nat} {W W' : World} (h : Stay K A T W W') : Only (fun k => ¬ K k) W W' :=
  ⟨h.1.os, h.1.tape, h.1.output, h.1.size, fun k _ hk => h.2 k (.inl (Classical.not_not.1 hk))⟩
set_option maxHeartbeats 4000000 in
theorem back_own {g : List (List Nat)} (G : Gr g) (a : Option Addr) (c : Nat) (D : List (List Nat)) (hD : IsDoms g D)
    (n : Nat) (hn : 8 ≤ n) (Bg Bd db dc B0 : Nat) (ys : List LV) (K : Nat → Prop) (w0 w : World) (h : GRow w0 a g) (hb0 : Below w0.heap.size w0 w) (hK0 : ∀ k, k < w0.heap.size → K k) (hKg : K Bg) (hKd : K Bd) (hKw : ∀ k, K k → k < w.heap.size) (hc : w.cell? ⟨Bg, 0, none⟩ = some (.slice a g.length c))
    (hd : w.cell? ⟨Bd, 0, none⟩ = some (.slice (some ⟨db, 0, none⟩) g.length dc)) (hs : OwnS w B0 (.slice (some ⟨db, 0, none⟩) g.length dc) ys) (hys : lists ys = natsL D) (hKs : ∀ x ∈ (⟨60, 1, .slice (some ⟨db, 0, none⟩) g.length dc, ys.length, vals ys⟩ :: ys.map rowL : List OR), ∀ k, x.v.ownBlock = some k → K k) :
    SeqOwn Fence.wide n Tryz.prog 100 #[.pointer (some ⟨Bg, 0, none⟩), .pointer (some ⟨Bd, 0, none⟩)] (fun x : { e : Nat × Nat // Lead g e.1 e.2 } => #[Value.int .i64 (x.1.1 : Int), Value.int .i64 (x.1.2 : Int)]) K (fun zs => zs.map (·.1) = backL g D) (fun pre => pre.map (·.1) <+: backL g D) 144 w := by
  intro l J Jx W hW hprep hown hownx hY
  have hgm := G.most
  have n1 : 1 ≤ n := by omega
  have n2 : 1 ≤ n - 1 := by omega
  have n3 : 1 ≤ n - 1 - 1 := by omega
  have H := hid h
  have HY := hid hY
  have HP := hid (And.intro hprep (And.intro hown hownx))
  have hsW : OwnS W B0 (.slice (some ⟨db, 0, none⟩) g.length dc) ys := Sep.below hs hW
  have hBg : Bg < w.heap.size := hKw _ hKg
  have hBd : Bd < w.heap.size := hKw _ hKd
  have cg : W.cell? ⟨Bg, 0, none⟩ = some (.slice a g.length c) := (hW.cell (p := ⟨Bg, 0, none⟩) hBg).trans hc
  have cd : W.cell? ⟨Bd, 0, none⟩ = some (.slice (some ⟨db, 0, none⟩) g.length dc) := (hW.cell (p := ⟨Bd, 0, none⟩) hBd).trans hd
  have BW : Below w0.heap.size w0 W := hb0.trans (hW.mono hb0.size)
  have bA := below1 W (.cells #[.func (.yield l) #[] #[]] 106)
  have cg1 : (W.alloc (.cells #[.func (.yield l) #[] #[]] 106)).cell? ⟨Bg, 0, none⟩ = some (.slice a g.length c) := cell_below cg bA
  have HSW := hid hsW
  clear h hY hprep hown hownx hs hsW hc hd
  refine callsIn_of_wp_marks Tryz.func100 rfl trivial ?_ rfl
  simp only [Tryz.ntmps100, List.size_toArray, List.length_cons, List.length_nil, Nat.reduceAdd, Nat.reduceSub, Array.replicate_succ, Array.replicate_zero, List.push_toArray, List.append_toArray, List.nil_append, List.cons_append]
  gi_wp2_with (refine ⟨trivial, ?_⟩; gi_at_call 39; refine (callsIn_wide.2 (edgesIn_any _ _ _ _)).mono ?_; rintro e w' ⟨rfl, rfl⟩)
  obtain ⟨X, hX⟩ : ∃ X, ((W.alloc (.cells #[.func (.yield l) #[] #[]] 106)).alloc (.cells #[.slice a g.length c] 25)) = X := ⟨_, rfl⟩
  have zX : X.heap.size = W.heap.size + 2 := by rw [← hX]; simp
  have BWX : Below W.heap.size W X := by rw [← hX]; exact below2 _ _ _
  have gWX : W.grownBy X none := grownBy_of_below BWX _
  have yX : Boxed X W.heap.size 106 (.func (.yield l) #[] #[]) := by rw [← hX]; exact (Boxed.new W 106 _).alloc _
  have xg : X.cell? ⟨W.heap.size + 1, 0, none⟩ = some (.slice a g.length c) := by
    rw [← hX]
    have := Boxed.new (W.alloc (.cells #[.func (.yield l) #[] #[]] 106)) 25 (.slice a g.length c)
    rw [World.size_alloc] at this
    exact this.cell
  have cdX := cell_below cd BWX
  have hsX : OwnS X B0 (.slice (some ⟨db, 0, none⟩) g.length dc) ys := Sep.below HSW.out BWX
  rw [hX]
  have HX := hid (And.intro gWX hsX)
  have hWw := hW.size
  clear hX gWX hsX HSW
  refine range_ownG rfl n1 (gf := 78) (lb := #[.pointer (some ⟨W.heap.size + 1, 0, none⟩)]) rfl trivial (enters_of Tryz.func78 (by kernel_rfl) rfl)
    (edges_own G a c (fun e => Lead g e.1 e.2) (edges_lead G) (order_lt G) (dfs_len G).1 _ (by omega) (W.heap.size + 1) (fun k => k < w0.heap.size ∨ k = W.heap.size + 1) w0 X H.out (BW.trans (BWX.mono BW.size)) (fun k hk => .inl hk) (.inr rfl) (fun k hk => by have := BW.size; omega) xg) (fun k hk => by have := BW.size; omega) (Below.refl _ _) (fun _ => rfl)
    (fun T pre V => (J T (pre.filter fun x => isB D x.1) V ∧ Stay K W.heap.size X.heap.size X V) ∧ T ≤ V.heap.size)
    (fun cd pre V => cd = .ret ∧ Jx (pre.filter fun x => isB D x.1) V)
    (fun T => OwnFrom.and (OwnFrom.and (fun s A B row hs hg hr => HP.out.2.1 _ _ A B row hs hg (fun r e => ⟨by have := (hr r e).1; omega, (hr r e).2⟩)) (stay_own (fun k hk => by have := hKw _ hk; omega) (Nat.le_refl _) (Nat.le_refl _))) (fun s A B row hs hg hr => Nat.le_trans hs hg.size))
    (fun cd s A B row hs hg hr => ⟨hs.1, HP.out.2.2 _ A B row hs.2 hg (fun r e => ⟨by have := (hr r e).1; omega, (hr r e).2⟩)⟩)
    (fun W' hg => ⟨⟨HP.out.1 W' (HX.out.1.trans hg), (Below.refl 0 X).grown hg (by omega) (fun k e => by cases e), fun k hk => hg.block k (by rcases hk with hk | hk; (have := hKw _ hk; omega); omega) (by simp)⟩, Nat.le_refl _⟩)
    (fun x => { tmps := #[Value.func (Fn.yield l) #[] #[], Value.pointer (some { block := Bg, off := 0 }), Value.pointer (some { block := Bd, off := 0 }), Value.pointer (some { block := W.heap.size, off := 0 }), .int .i64 (x.1.1 : Int), .int .i64 (x.1.2 : Int), Value.agg #[Value.slice a g.length c], Value.func (Fn.func 78) #[] #[Value.pointer (some { block := W.heap.size + 1, off := 0 })], .int .i64 (x.1.1 : Int), .int .i64 (x.1.2 : Int), undef, undef, undef, undef, undef, undef, undef, undef, undef, undef, undef, undef, undef], defers := [] }) ?assign ?body ?done ?stop
  case assign =>
    intro l' x V Kc hKc
    gi_wp2
    exact hKc
  case body =>
    rintro l' T pre x V hT ⟨⟨hJ, hst⟩, hTV⟩ hlen
    have hfrom : x.1.1 < g.length := RchW.lt G x.2.1
    obtain ⟨r, hr⟩ : ∃ r, D[x.1.1]? = some r := ⟨_, List.getElem?_eq_getElem (by rw [hD.1]; exact hfrom)⟩
    obtain ⟨rv, hrv⟩ := own_of_lists hys hr
    have hsV : OwnS V B0 (.slice (some ⟨db, 0, none⟩) g.length dc) ys := (stay_only hst).sep HX.out.2 (fun y hy k hk hn => hn (hKs y hy k hk))
    have hro := hsV.1 (rowL ⟨nats r, rv⟩) (List.mem_cons_of_mem _ (List.mem_map_of_mem (List.mem_of_getElem? hrv)))
    simp only [OR.own, rowL, nats_length] at hro
    obtain ⟨ra, rc, e1⟩ := slice_of_owned hro
    subst e1
    have hrr : Row V ra (nats r) := own_row (xs := nats r) (by rw [nats_length]; exact hro)
    have cr : V.cell? ⟨db, x.1.1, none⟩ = some (.slice ra r.length rc) := Sep.cell hsV (List.mem_cons_self ..) rfl (by simp [vals, hrv])
    have yV : V.cell? ⟨W.heap.size, 0, none⟩ = some (.func (.yield l) #[] #[]) := (cell_same (p := ⟨W.heap.size, 0, none⟩) (hst.2 W.heap.size (.inr ⟨Nat.le_refl _, by omega⟩))).trans yX.cell
    have cV : V.cell? ⟨Bd, 0, none⟩ = some (.slice (some ⟨db, 0, none⟩) g.length dc) := (cell_same (p := ⟨Bd, 0, none⟩) (hst.2 _ (.inl hKd))).trans cdX
    have hr12 : r.length ≤ 12 := by
      have h8 := nodup_le (n := g.length) (rising_nodup (hD.2 _ r hr).1) (fun y hy => RchW.lt G (((hD.2 _ r hr).2 y).1 hy).2.1)
      omega
    have hVz := hst.1.size
    have HH := hid (has_any ra rc r x.1.2 V (by omega) hrr (hD.2 _ r hr).1)
    have hfl : (pre.filter fun x => isB D x.1).length < 144 := Nat.lt_of_le_of_lt (List.length_filter_le _ _) hlen
    have HJ := hid (And.intro hJ (And.intro hst hr))
    clear hJ hst hr hrv hsV hro hrr
    by_cases hx : x.1.2 ∈ r
    · have tx : decide (x.1.2 ∈ r) = true := decide_eq_true hx
      have hb : isB D x.1 = true := by unfold isB; rw [List.getD_eq_getElem?_getD, HJ.out.2.2]; exact tx
      have ef : (pre ++ [x]).filter (fun x => isB D x.1) = (pre.filter fun x => isB D x.1) ++ [x] := by simp [List.filter_append, hb]
      rw [tx] at HH
      have HEF := hid ef
      clear tx hb ef hx
      gi_wp2_with (refine ⟨trivial, ?_⟩; gi_at_call 38; refine (CallsIn.inRound l' (callsIn_wide.2 HH.out)).mono ?_; rintro e w1 ⟨rfl, hb1⟩; have y1 := cell_below yV hb1; obtain ⟨fn, tm, asg, bd, hy, hR⟩ := HY.out T (pre.filter fun x => isB D x.1) x w1 (by omega) (HP.out.2.1 T _ V w1 none HJ.out.1 (grownBy_of_below hb1 none) (fun r e => by cases e)) hfl)
      have HRR := hid hR
      clear hR
      refine (RoundIn.deep HRR.out).mono ?_
      have sV1 : Stay K W.heap.size T V w1 := Stay.below hb1 (fun k hk => by have := hKw _ hk; omega) hTV
      have sX1 : Stay K W.heap.size X.heap.size V w1 := Stay.below hb1 (fun k hk => by have := hKw _ hk; omega) (by omega)
      rintro e Z ⟨hkz, (⟨rfl, hjz, hsz⟩ | ⟨rfl, hjz⟩)⟩
      · have HZ := hid (And.intro hkz (And.intro hjz hsz))
        clear hkz hjz hsz
        gi_wp2
        have sZ := sV1.trans HZ.out.2.2
        refine ⟨⟨Nat.le_trans hb1.size HZ.out.1.size, fun k o hB hk ho => HZ.out.1.same k o (by omega) ((hb1.block k (Array.getElem?_eq_some_iff.1 hk).1).trans hk) ho⟩, ⟨sZ.1, fun k hk => sZ.2 k ?_⟩, ⟨by rw [HEF.out]; exact HZ.out.2.1, HJ.out.2.1.trans ⟨sZ.1, fun k hk => sZ.2 k (hk.imp id (fun h => ⟨h.1, by omega⟩))⟩⟩, Nat.le_trans hTV (Nat.le_trans hb1.size HZ.out.1.size)⟩
        rcases hk with (h | h) | h
        · exact .inl (hK0 k h)
        · exact .inr ⟨by omega, by omega⟩
        · exact .inr ⟨by omega, h.2⟩
      · have HZ := hid (And.intro hkz hjz)
        clear hkz hjz
        gi_wp2
        exact ⟨⟨Nat.le_trans hb1.size HZ.out.1.size, fun k o hB hk ho => HZ.out.1.same k o (by omega) ((hb1.block k (Array.getElem?_eq_some_iff.1 hk).1).trans hk) ho⟩, rfl, by rw [HEF.out]; exact HZ.out.2⟩
    · have tx : decide (x.1.2 ∈ r) = false := decide_eq_false hx
      have hb : isB D x.1 = false := by unfold isB; rw [List.getD_eq_getElem?_getD, HJ.out.2.2]; exact tx
      have ef : (pre ++ [x]).filter (fun x => isB D x.1) = (pre.filter fun x => isB D x.1) := by simp [List.filter_append, hb]
      rw [tx] at HH
      have HEF := hid ef
      clear tx hb ef hx
      gi_wp2_with (refine ⟨trivial, ?_⟩; gi_at_call 38; refine (CallsIn.inRound l' (callsIn_wide.2 HH.out)).mono ?_; rintro e w1 ⟨rfl, hb1⟩)
      refine ⟨fun f h => (by cases h), ?_⟩
      refine (‹∀ (a : Act) (w : World), wpListIn _ _ _ _ _ _ a w → _›) _ _ ?_
      gi_wp2
      have sV1 : Stay K W.heap.size X.heap.size V w1 := Stay.below hb1 (fun k hk => by have := hKw _ hk; omega) (by omega)
      refine ⟨(keeps_below hb1).from _, Stay.below hb1 (fun k hk => by rcases hk with h | h; (have := BW.size; omega); omega) hTV, ⟨?_, HJ.out.2.1.trans sV1⟩, Nat.le_trans hTV hb1.size⟩
      rw [HEF.out]
      exact HP.out.2.1 T _ V w1 none HJ.out.1 (grownBy_of_below hb1 none) (fun r e => by cases e)
  case done =>
    rintro Dd T xs V hDd hS ⟨⟨hJ, hst⟩, hTV⟩ hK
    gi_wp2
    refine ⟨by simp, .inl ⟨_, _, rfl, run_takeDeferred hK, ?_⟩⟩
    refine ⟨_, results_none rfl _ _ _, ⟨_, rfl⟩, .inl ⟨xs.filter (fun x => isB D x.1), T, ?_, ?_⟩⟩
    · rw [filt_map, hS]; rfl
    · exact (HP.out.2.1 _).putObj _ hJ (by omega) hK rfl
  case stop =>
    rintro Dd cd pre V hDd hpre ⟨rfl, hJ⟩ hK
    gi_wp2
    refine ⟨by simp, .inl ⟨_, _, rfl, run_takeDeferred hK, ?_⟩⟩
    refine ⟨_, results_none rfl _ _ _, ⟨_, rfl⟩, .inr ⟨pre.filter (fun x => isB D x.1), ?_, ?_⟩⟩
    · rw [filt_map]; exact hpre.filter _
    · exact HP.out.2.2.putObj _ hJ (by omega) hK rfl
end

section
open Go.RowKit
set_option linter.unusedVariables false
set_option linter.unusedSimpArgs false
set_option maxRecDepth 100000

/-- lists of lists that are owned, and whether there are any -/
def LLAns (e : Ending) (w w' : World) (yy : List (List Int)) (G : Bool) : Prop := ∃ va vc ys, e = .returned (.tuple #[.slice va yy.length vc, .bool G]) ∧ OwnL w' w.heap.size (.slice va yy.length vc) ys ∧ lists ys = yy ∧ Below w.heap.size w w'
theorem llans_of {e : Ending} {w w' : World} {yy : List (List Int)} {G : Bool} {v : Value} {ys : List LV} (he : e = .returned (.tuple #[v, .bool G])) (ho : OwnL w' w.heap.size v ys) (hy : lists ys = yy) (hb : Below w.heap.size w w') : LLAns e w w' yy G := by
  obtain ⟨a, c, rfl, _⟩ := ho.row
  rw [hy] at he ho
  exact ⟨a, c, ys, he, ho, hy, hb⟩
theorem own_none (w : World) (B : Nat) : OwnL w B (.slice none 0 0) [] := ⟨by intro x hx; simp [rowsL, vals] at hx; subst hx; exact World.ownsRow_nil _ _ _ _, by simp [rowsL]⟩
theorem llans_none {e : Ending} {w w' : World} (he : e = .returned (.tuple #[.slice none 0 0, .bool false])) (hb : Below w.heap.size w w') : LLAns e w w' [] false := ⟨none, 0, [], he, own_none _ _, rfl, hb⟩
/-- both sides answer so -/
def AnsLL (sp im : Nat) (xs : List (List Int)) (yy : List (List Int)) (G : Bool) : Prop := yy.length ≤ 1000 ∧ sumL yy ≤ 1000 ∧
  (∀ (a : Option Addr) (c : Nat) (w : World), LRow w a xs → Calls Tryz.prog sp #[.agg #[.slice a xs.length c]] w fun e w' => LLAns e w w' yy G) ∧
  (∀ (a : Option Addr) (c : Nat) (w : World), LRow w a xs → Calls Tryz.prog im #[.agg #[.slice a xs.length c]] w fun e w' => LLAns e w w' yy G)
theorem sum_good {xs : List (List Int)} {n m : Nat} (hn : xs.length ≤ n) (hm : ∀ l ∈ xs, l.length ≤ m) : sumL xs ≤ n * m := by
  have : sumL xs ≤ xs.length * m := by
    clear hn
    induction xs with
    | nil => simp [sumL]
    | cons x r ih =>
      have h1 := ih fun l hl => hm l (List.mem_cons_of_mem _ hl)
      have h2 := hm x (by simp)
      have e : sumL (x :: r) = x.length + sumL r := by simp [sumL]
      rw [e, List.length_cons, Nat.succ_mul]
      omega
  exact Nat.le_trans this (Nat.mul_le_mul_right _ hn)
theorem Marked.cell {ys : List LV} {w w' : World} (h : Marked ys w w') {k j : Nat} {u : Value} (hu : w.cell? ⟨k, j, none⟩ = some u) (hn : ∀ y ∈ ys, y.v.ownBlock ≠ some k) : w'.cell? ⟨k, j, none⟩ = some u := by
  rw [World.cell?_of_block (a := ⟨k, j, none⟩) (h.1 k (World.block_lt_of_cell? w _ hu) hn)]; exact hu
theorem own_lrow {w : World} {B n c : Nat} {a : Option Addr} {ys : List LV} {yy : List (List Int)} (h : OwnL w B (.slice a n c) ys) (hy : lists ys = yy) : LRow w a yy := by
  obtain ⟨a', c', e, r⟩ := h.row
  injection e with e1 e2 e3
  rw [e1, ← hy]; exact r
end

section
open Go Go.RowKit Go.Shelf
set_option linter.unusedVariables false
set_option maxRecDepth 100000

def pairsL (es : List (Nat × Nat)) : List (List Int) := es.map fun e => [(e.1 : Int), (e.2 : Int)]
theorem pairsL_snoc (es : List (Nat × Nat)) (e : Nat × Nat) : pairsL (es ++ [e]) = pairsL es ++ [[(e.1 : Int), (e.2 : Int)]] := by simp [pairsL]
def rangeE (g : List (List Nat)) (k : Nat) : List (Nat × Nat) := (List.range k).flatMap (edgesAt g)
theorem rangeE_succ (g : List (List Nat)) (k : Nat) {l : List Nat} (h : g[k]? = some l) : rangeE g (k + 1) = rangeE g k ++ l.map (fun v => (k, v)) := by
  unfold rangeE
  rw [List.range_succ, List.flatMap_append]
  simp [edgesAt, h]
theorem flat_filter (l : List Nat) (q : Nat → Bool) (f : Nat → List (Nat × Nat)) (h : ∀ k, q k = false → f k = []) : (l.filter q).flatMap f = l.flatMap f := by
  induction l with
  | nil => rfl
  | cons x t ih =>
    cases e : q x with
    | true => rw [List.filter_cons_of_pos e, List.flatMap_cons, List.flatMap_cons, ih]
    | false => rw [List.filter_cons_of_neg (by simp [e]), List.flatMap_cons, ih, h x e]; rfl
theorem isB_dom {g D : List (List Nat)} (hD : IsDoms g D) (u v : Nat) : isB D (u, v) = true ↔ (u < g.length ∧ Dom g v u) := by
  unfold isB
  rw [decide_eq_true_iff, List.getD_eq_getElem?_getD]
  by_cases hu : u < g.length
  · obtain ⟨r, hr⟩ : ∃ r, D[u]? = some r := ⟨_, List.getElem?_eq_getElem (by rw [hD.1]; exact hu)⟩
    rw [hr]
    simp only [Option.getD_some]
    rw [(hD.2 u r hr).2 v]
    exact ⟨fun h => ⟨hu, h⟩, fun h => h.2⟩
  · rw [List.getElem?_eq_none (by rw [hD.1]; omega)]
    simp [hu]
theorem backs_eq {g D : List (List Nat)} (G : Gr g) (hD : IsDoms g D) : (rangeE g g.length).filter (isB D) = backL g D := by
  unfold rangeE backL edgesL
  have e1 : setL (order7 g) = (List.range g.length).filter fun k => decide (k ∈ order7 g) := by
    refine rising_unique (setL_rising _) (List.Pairwise.filter _ List.pairwise_lt_range) (fun x => ?_)
    rw [setL_mem, List.mem_filter, List.mem_range, decide_eq_true_iff]
    exact ⟨fun h => ⟨order_lt G x h, h⟩, fun h => h.2⟩
  rw [e1, List.filter_flatMap, List.filter_flatMap, flat_filter]
  intro k hk
  rw [List.filter_eq_nil_iff]
  intro e he hb
  unfold edgesAt at he
  obtain ⟨v, _, rfl⟩ := List.mem_map.1 he
  have := ((isB_dom hD k v).1 hb).2.1
  exact (of_decide_eq_false hk) ((order_come G k).2 this)
theorem backL_few {g D : List (List Nat)} (G : Gr g) : (backL g D).length ≤ 144 := by
  unfold backL
  refine Nat.le_trans (List.length_filter_le _ _) ?_
  have h1 := edges_few G (setL (order7 g))
  have h2 := setL_len (order7 g)
  have h3 := (dfs_len G).1
  unfold edgesL
  omega
theorem pairs_sum (es : List (Nat × Nat)) : sumL (pairsL es) = 2 * es.length := by
  induction es with
  | nil => rfl
  | cons e t ih =>
    have : sumL (pairsL (e :: t)) = 2 + sumL (pairsL t) := by simp [sumL, pairsL]
    rw [this, ih, List.length_cons]
    omega
/-- a row of two is made -/
theorem pair_own (w : World) (u v : Int) : (w.alloc (.cells #[.int .i64 u, .int .i64 v] 3)).ownsRow w.heap.size 3 1 (.slice (some ⟨w.heap.size, 0, none⟩) 2 2) [u, v].length (ints [u, v]) :=
  ⟨by simp [ints], .inr ⟨w.heap.size, 2, #[.int .i64 u, .int .i64 v], rfl, Nat.le_refl _, World.alloc_heap_new _ _, Nat.le_refl _, by unfold maxLen; simp, by simp, by simp [ints]⟩⟩
theorem hasR_any (a : Option Addr) (c : Nat) (S : List Nat) (x : Nat) (w : World) (hl : S.length ≤ 1000) (h : Row w a (nats S)) :
    Calls Tryz.prog 46 #[.slice a S.length c, .int .i64 (x : Int)] w fun e w' => e = .returned (.bool (decide (x ∈ S))) ∧ w' = w := by
  have := l1Has_any a c (nats S) x w (by rw [nats_length]; omega) h
  rw [nats_length] at this
  have e : hasB (nats S) x = decide (x ∈ S) := by rw [Bool.eq_iff_iff]; simp [hasB, nats_mem]
  rw [e] at this
  exact this
end

section
section
open Go
set_option linter.unusedVariables false

/-- reached in at most so many steps -/
inductive Dist (g : List (List Nat)) : Nat → Nat → Prop
  | zero (m : Nat) : Dist g m 0
  | step {m i j : Nat} {l : List Nat} : Dist g m i → g[i]? = some l → j ∈ l → Dist g (m + 1) j
theorem Dist.more {g : List (List Nat)} {m k : Nat} (h : Dist g m k) : Dist g (m + 1) k := by
  induction h with
  | zero m => exact .zero _
  | step _ hl hj ih => exact .step ih hl hj
theorem Come.dist {g : List (List Nat)} {k : Nat} (h : Come g k) : ∃ m, Dist g m k := by
  unfold Come at h
  induction h with
  | start _ => exact ⟨0, .zero 0⟩
  | step _ hl hj _ ih => obtain ⟨m, hm⟩ := ih; exact ⟨m + 1, .step hm hl hj⟩
theorem Dist.come {g : List (List Nat)} {m k : Nat} (h : Dist g m k) : Come g k := by
  induction h with
  | zero m => exact .start (by omega)
  | step _ hl hj ih => exact .step ih hl hj (by omega)
theorem Dist.through {g : List (List Nat)} {m u : Nat} (d : Nat) (h : Dist g m u) : RchW g d u ∨ Dist g m d := by
  induction h with
  | zero m =>
    by_cases e : d = 0
    · subst e; exact .inr (.zero m)
    · exact .inl (.start (by omega))
  | @step m i j l hi hl hj ih =>
    rcases ih with ih | ih
    · by_cases e : j = d
      · subst e; exact .inr (.step hi hl hj)
      · exact .inl (.step ih hl hj (by omega))
    · exact .inr ih.more
/-- a graph without its edges to dominators -/
def fwd (g D : List (List Nat)) : List (List Nat) := (List.range g.length).map fun k => (g.getD k []).filter fun x => !(isB D (k, x))
theorem fwd_at {g D : List (List Nat)} {k : Nat} {l : List Nat} (h : g[k]? = some l) : (fwd g D)[k]? = some (l.filter fun x => !(isB D (k, x))) := by
  unfold fwd
  have hk := (List.getElem?_eq_some_iff.1 h).1
  rw [List.getElem?_map, List.getElem?_range hk]
  simp [List.getD_eq_getElem?_getD, h]
theorem fwd_len (g D : List (List Nat)) : (fwd g D).length = g.length := by simp [fwd]
theorem fwd_mem {g D : List (List Nat)} {k x : Nat} {l' : List Nat} (h : (fwd g D)[k]? = some l') (hx : x ∈ l') : ∃ l, g[k]? = some l ∧ x ∈ l ∧ isB D (k, x) = false := by
  have hk : k < g.length := by rw [← fwd_len g D]; exact (List.getElem?_eq_some_iff.1 h).1
  obtain ⟨l, hl⟩ : ∃ l, g[k]? = some l := ⟨_, List.getElem?_eq_getElem hk⟩
  rw [fwd_at hl] at h
  obtain rfl := Option.some.inj h
  have := List.mem_filter.1 hx
  exact ⟨l, hl, this.1, by simpa using this.2⟩
theorem Gr.fwd {g : List (List Nat)} (G : Gr g) (D : List (List Nat)) : Gr (fwd g D) := by
  refine ⟨by rw [fwd_len]; exact G.pos, by rw [fwd_len]; exact G.most, fun i l hl => ?_, fun i l hl k hk => ?_⟩
  · have hi : i < g.length := by rw [← fwd_len g D]; exact (List.getElem?_eq_some_iff.1 hl).1
    obtain ⟨l0, hl0⟩ : ∃ l, g[i]? = some l := ⟨_, List.getElem?_eq_getElem hi⟩
    rw [fwd_at hl0] at hl
    obtain rfl := Option.some.inj hl
    exact (G.rising i l0 hl0).filter _
  · obtain ⟨l0, h1, h2, _⟩ := fwd_mem hl hk
    rw [fwd_len]
    exact G.below i l0 h1 k h2
theorem fwd_come {g D : List (List Nat)} (G : Gr g) (hD : IsDoms g D) (k : Nat) : Come (fwd g D) k ↔ Come g k := by
  constructor
  · intro h
    unfold Come at h
    induction h with
    | start _ => exact .start (by omega)
    | step _ hl hj _ ih => obtain ⟨l, h1, h2, _⟩ := fwd_mem hl hj; exact .step ih h1 h2 (by omega)
  · intro h
    obtain ⟨m, hm⟩ := h.dist
    induction m using Nat.strongRecOn generalizing k with
    | _ m ih =>
      by_cases hmin : ∃ m', m' < m ∧ Dist g m' k
      · obtain ⟨m', h1, h2⟩ := hmin
        exact ih m' h1 k h h2
      · cases hm with
        | zero _ => exact .start (by omega)
        | @step m i j l hi hl hj =>
          have hnb : isB D (i, k) = false := by
            cases e : isB D (i, k) with
            | false => rfl
            | true =>
              exfalso
              have hd := ((isB_dom hD i k).1 e).2
              rcases hi.through k with h1 | h1
              · exact hd.2.2 h1
              · exact hmin ⟨m, by omega, h1⟩
          exact .step (ih m (by omega) i hi.come hi) (fwd_at hl) (List.mem_filter.2 ⟨hj, by simp [hnb]⟩) (by omega)
/-- a way along edges -/
inductive Way (g : List (List Nat)) : Nat → Nat → Prop
  | refl (u : Nat) : Way g u u
  | step {u v x : Nat} {l : List Nat} : Way g u v → g[v]? = some l → x ∈ l → Way g u x
theorem Way.trans {g : List (List Nat)} {u v x : Nat} (h : Way g u v) (k : Way g v x) : Way g u x := by
  induction k with
  | refl => exact h
  | step _ hl hx ih => exact .step ih hl hx
theorem Way.head {g : List (List Nat)} {u x : Nat} (h : Way g u x) : u = x ∨ ∃ l y, g[u]? = some l ∧ y ∈ l ∧ Way g y x := by
  induction h with
  | refl => exact .inl rfl
  | @step v x l h1 hl hx ih =>
    rcases ih with rfl | ⟨l', y, hl', hy, hw⟩
    · exact .inr ⟨l, x, hl, hx, .refl x⟩
    · exact .inr ⟨l', y, hl', hy, .step hw hl hx⟩
theorem Way.come {g : List (List Nat)} {u x : Nat} (h : Way g u x) (hu : Come g u) : Come g x := by
  induction h with
  | refl => exact hu
  | step _ hl hx ih => exact .step ih hl hx (by omega)
/-- each edge leads to one that is behind, or from which a way leads back -/
def Fwd (g : List (List Nat)) (o : List Nat) : Prop := ∀ u post, (u :: post) <:+ o → ∀ l, g[u]? = some l → ∀ v ∈ l, v ∈ post ∨ Way g v u
theorem dfs_fwd {g : List (List Nat)} (G : Gr g) (n : Nat) : ∀ (k : Nat) (A : List Nat) (p : List Nat × List Nat), Tour g A p → Fwd g p.2 → (∀ a ∈ A, Way g a k) → k < g.length → k ∉ p.1 → Come g k → g.length ≤ p.1.length + n → Tour g A (dfs g n k p.1 p.2) ∧ Fwd g (dfs g n k p.1 p.2).2 ∧ k ∈ (dfs g n k p.1 p.2).1 := by
  induction n with
  | zero =>
    intro k A p h _ _ hk hn _ hl
    have := h.seen.room hk hn
    omega
  | succ n ih =>
    intro k A p h hf hA hk hn hc hl
    have hT := dfs_tour G (n + 1) k A p h hk hn hc hl
    refine ⟨hT.1, ?_, hT.2⟩
    obtain ⟨l, hgl⟩ : ∃ l, g[k]? = some l := ⟨_, List.getElem?_eq_getElem hk⟩
    rw [dfs_succ, getD_at hgl]
    have hb := G.below k l hgl
    have hA' : ∀ x ∈ l, ∀ a ∈ k :: A, Way g a x := fun x hx a ha => by
      rcases List.mem_cons.1 ha with rfl | ha
      · exact .step (.refl _) hgl hx
      · exact .step (hA a ha) hgl hx
    have go : ∀ (r : List Nat) (q : List Nat × List Nat), (∀ x ∈ r, x ∈ l) → Tour g (k :: A) q → Fwd g q.2 → g.length ≤ q.1.length + n → Tour g (k :: A) (dfsL g n r q) ∧ Fwd g (dfsL g n r q).2 ∧ (∀ x ∈ q.1, x ∈ (dfsL g n r q).1) ∧ ∀ x ∈ r, x ∈ (dfsL g n r q).1 := by
      intro r
      induction r with
      | nil => intro q _ hq hqf _; exact ⟨hq, hqf, fun x hx => hx, fun x hx => by cases hx⟩
      | cons x r ihr =>
        intro q hr hq hqf hlq
        have e : dfsL g n (x :: r) q = dfsL g n r (if x ∈ q.1 then q else dfs g n x q.1 q.2) := rfl
        rw [e]
        have hxl : x < g.length := hb x (hr x (by simp))
        have step : Tour g (k :: A) (if x ∈ q.1 then q else dfs g n x q.1 q.2) ∧ Fwd g (if x ∈ q.1 then q else dfs g n x q.1 q.2).2 ∧ x ∈ (if x ∈ q.1 then q else dfs g n x q.1 q.2).1 ∧ Kept7 g.length q (if x ∈ q.1 then q else dfs g n x q.1 q.2) := by
          split
          · rename_i hm; exact ⟨hq, hqf, hm, .refl hq.seen⟩
          · rename_i hm
            have h1 := ih x (k :: A) q hq hqf (hA' x (hr x (by simp))) hxl hm (.step hc hgl (hr x (by simp)) (by omega)) hlq
            exact ⟨h1.1, h1.2.1, h1.2.2, dfs_kept G n x q.1 q.2 hq.seen hxl hm⟩
        obtain ⟨s1, s0, s2, s3⟩ := step
        obtain ⟨t1, t0, t2, t3⟩ := ihr _ (fun y hy => hr y (List.mem_cons_of_mem _ hy)) s1 s0 (by have := s3.2.2.1; omega)
        refine ⟨t1, t0, fun y hy => t2 y (s3.2.1 y hy), fun y hy => ?_⟩
        rcases List.mem_cons.1 hy with rfl | hy
        · exact t2 _ s2
        · exact t3 y hy
    have hp : Tour g (k :: A) (putL p.1 k, p.2) := by
      refine ⟨h.seen.put hk, fun x => ?_, fun x hx => ?_, fun x hx l' hl' y hy => ?_, h.once, fun x hx hxa => ?_⟩
      · show x ∈ putL p.1 k ↔ _
        rw [putL_mem, h.parts x, List.mem_cons]
        exact or_assoc.symm
      · rcases (putL_mem p.1 k x).1 hx with rfl | hx
        · exact hc
        · exact h.come x hx
      · exact (putL_mem p.1 k y).2 (.inr (h.closed x hx l' hl' y hy))
      · rcases List.mem_cons.1 hxa with rfl | hxa
        · exact hn ((h.parts x).2 (.inr hx))
        · exact h.apart x hx hxa
    obtain ⟨t1, t0, t2, t3⟩ := go l (putL p.1 k, p.2) (fun x hx => hx) hp hf (by show _ ≤ (putL p.1 k).length + n; rw [putL_len' p.1 k hn]; omega)
    intro u post hs lu hlu v hv
    rcases List.suffix_cons_iff.1 hs with e | hs
    · injection e with e1 e2
      subst e1 e2
      rw [hgl] at hlu
      obtain rfl := Option.some.inj hlu
      rcases (t1.parts v).1 (t3 v hv) with h1 | h1
      · rcases List.mem_cons.1 h1 with rfl | h1
        · exact .inr (.refl _)
        · exact .inr (hA v h1)
      · exact .inl h1
    · exact t0 u post hs lu hlu v hv
theorem order_fwd {g : List (List Nat)} (G : Gr g) : Fwd g (order7 g) :=
  (dfs_fwd G g.length 0 [] ([], []) (tour_start g) (by intro u post hs; simp at hs) (by simp) G.pos (by simp) (.start (by omega)) (by simp)).2.1
/-- a way leads round among the nodes that are come to -/
def Cyc (g : List (List Nat)) : Prop := ∃ S : Nat → Prop, (∃ k, S k) ∧ (∀ k, S k → Come g k) ∧ ∀ k, S k → ∃ l x, g[k]? = some l ∧ x ∈ l ∧ S x
theorem cyc_of_edge {g : List (List Nat)} (G : Gr g) {u v : Nat} (hl : Lead g u v) (h : (order7 g).idxOf v ≤ (order7 g).idxOf u) : Cyc g := by
  obtain ⟨hcu, l, hgl, hv⟩ := hl
  have hu := (order_come G u).2 hcu
  obtain ⟨pre, post, e⟩ := List.append_of_mem hu
  have hno := order_once G
  have hw : Way g v u := by
    rcases order_fwd G u post (by rw [e]; exact List.suffix_append _ _) l hgl v hv with h1 | h1
    · exfalso
      rw [e] at hno h
      have hnu : u ∉ pre := fun hm => by
        have := (List.nodup_append.1 hno).2.2 u hm u (by simp)
        exact this rfl
      have hnv : v ∉ pre := fun hm => by
        have := (List.nodup_append.1 hno).2.2 v hm v (List.mem_cons_of_mem _ h1)
        exact this rfl
      have hne : v ≠ u := fun e2 => by
        subst e2
        exact (List.nodup_cons.1 (List.nodup_append.1 hno).2.1).1 h1
      rw [List.idxOf_append, if_neg hnv, List.idxOf_append, if_neg hnu, List.idxOf_cons_self, List.idxOf_cons, show (u == v) = false from beq_eq_false_iff_ne.2 (fun h => hne h.symm)] at h
      simp at h
      omega
    · exact h1
  have hcv : Come g v := .step hcu hgl hv (by omega)
  refine ⟨fun x => Way g v x ∧ Way g x u, ⟨v, .refl v, hw⟩, fun k hk => hk.1.come hcv, fun k hk => ?_⟩
  rcases hk.2.head with rfl | ⟨l', y, hl', hy, hy2⟩
  · exact ⟨l, v, hgl, hv, .refl v, hw⟩
  · exact ⟨l', y, hl', hy, .step hk.1 hl' hy, hy2⟩
theorem edge_of_cyc {g : List (List Nat)} (G : Gr g) (h : Cyc g) : ∃ u v, Lead g u v ∧ (order7 g).idxOf v ≤ (order7 g).idxOf u := by
  refine Classical.byContradiction fun hn => ?_
  obtain ⟨S, ⟨k, hk⟩, hS, hN⟩ := h
  have : ∀ m k, S k → (order7 g).length - (order7 g).idxOf k = m → False := by
    intro m
    induction m using Nat.strongRecOn with
    | _ m ih =>
      intro k hk hm
      obtain ⟨l, x, hl, hx, hSx⟩ := hN k hk
      have hlt : (order7 g).idxOf k < (order7 g).idxOf x := by
        refine Nat.lt_of_not_le fun hle => hn ⟨k, x, ⟨hS k hk, l, hl, hx⟩, hle⟩
      have hxl := List.idxOf_lt_length_iff.2 ((order_come G x).2 (hS x hSx))
      exact ih _ (by omega) x hSx rfl
  exact this _ k hk rfl
/-- a way leads round without edges to dominators -/
def Cyc2 (g D : List (List Nat)) : Prop := ∃ S : Nat → Prop, (∃ k, S k) ∧ (∀ k, S k → Come g k) ∧ ∀ k, S k → ∃ l x, g[k]? = some l ∧ x ∈ l ∧ isB D (k, x) = false ∧ S x
theorem cyc_fwd {g D : List (List Nat)} (G : Gr g) (hD : IsDoms g D) : Cyc (fwd g D) ↔ Cyc2 g D := by
  constructor
  · rintro ⟨S, h1, h2, h3⟩
    refine ⟨S, h1, fun k hk => (fwd_come G hD k).1 (h2 k hk), fun k hk => ?_⟩
    obtain ⟨l, x, hl, hx, hS⟩ := h3 k hk
    obtain ⟨l', a, b, c⟩ := fwd_mem hl hx
    exact ⟨l', x, a, b, c, hS⟩
  · rintro ⟨S, h1, h2, h3⟩
    refine ⟨S, h1, fun k hk => (fwd_come G hD k).2 (h2 k hk), fun k hk => ?_⟩
    obtain ⟨l, x, hl, hx, hb, hS⟩ := h3 k hk
    exact ⟨_, x, fwd_at hl, List.mem_filter.2 ⟨hx, by simp [hb]⟩, hS⟩
/-- a node leads on to one that is left, not to a dominator -/
def leadB (g D : List (List Nat)) (left : List Nat) (k : Nat) : Bool := (g.getD k []).any fun x => decide (x ∈ left) && !(isB D (k, x))
theorem leadB_iff {g D : List (List Nat)} {left : List Nat} {k : Nat} : leadB g D left k = true ↔ ∃ l x, g[k]? = some l ∧ x ∈ l ∧ isB D (k, x) = false ∧ x ∈ left := by
  unfold leadB
  rw [List.any_eq_true]
  cases e : g[k]? with
  | none => simp [List.getD_eq_getElem?_getD, e]
  | some l =>
    simp only [List.getD_eq_getElem?_getD, e, Option.getD_some, Bool.and_eq_true, decide_eq_true_eq, Bool.not_eq_true']
    constructor
    · rintro ⟨x, h1, h2, h3⟩; exact ⟨l, x, rfl, h1, h3, h2⟩
    · rintro ⟨l', x, h0, h1, h3, h2⟩; cases h0; exact ⟨x, h1, h2, h3⟩
/-- those that are left have all ways round -/
structure LeftIs (g D : List (List Nat)) (left : List Nat) : Prop where
  come : ∀ k ∈ left, Come g k
  few : left.length ≤ 12
  big : ∀ S : Nat → Prop, (∀ k, S k → Come g k) → (∀ k, S k → ∃ l x, g[k]? = some l ∧ x ∈ l ∧ isB D (k, x) = false ∧ S x) → ∀ k, S k → k ∈ left
theorem LeftIs.begin {g D : List (List Nat)} (G : Gr g) {L : List Nat} (h : IsW g (-1) L) : LeftIs g D L := ⟨fun k hk => (h.2 k).1 hk, h.len G, fun S hS _ k hk => (h.2 k).2 (hS k hk)⟩
theorem LeftIs.next {g D : List (List Nat)} {left : List Nat} (h : LeftIs g D left) : LeftIs g D (left.filter (leadB g D left)) := by
  refine ⟨fun k hk => h.come k (List.mem_filter.1 hk).1, Nat.le_trans (List.length_filter_le _ _) h.few, fun S hS hN k hk => List.mem_filter.2 ⟨h.big S hS hN k hk, leadB_iff.2 ?_⟩⟩
  obtain ⟨l, x, h1, h2, h3, h4⟩ := hN k hk
  exact ⟨l, x, h1, h2, h3, h.big S hS hN x h4⟩
theorem LeftIs.end {g D : List (List Nat)} {left : List Nat} (h : LeftIs g D left) (he : (left.filter (leadB g D left)).length = left.length) : 0 < left.length ↔ Cyc2 g D := by
  have hall := List.length_filter_eq_length_iff.1 he
  constructor
  · intro hp
    obtain ⟨k, hk⟩ := List.exists_mem_of_length_pos hp
    exact ⟨fun k => k ∈ left, ⟨k, hk⟩, h.come, fun k hk => leadB_iff.1 (hall k hk)⟩
  · rintro ⟨S, ⟨k, hk⟩, hS, hN⟩
    exact List.length_pos_of_mem (h.big S hS hN k hk)
end

section
open Go
set_option linter.unusedVariables false

theorem take_drop_filter {v : Nat} : ∀ {r : List Nat}, r.Nodup → v ∈ r → r.take (r.idxOf v) ++ r.drop (r.idxOf v + 1) = r.filter (fun x => decide (x ≠ v))
  | [], _, h => by cases h
  | y :: s, hn, h => by
    have hn' := List.nodup_cons.1 hn
    by_cases e : y = v
    · subst e
      rw [List.idxOf_cons_self]
      simp only [List.take_zero, List.nil_append, Nat.zero_add, List.drop_succ_cons, List.drop_zero]
      rw [List.filter_cons_of_neg (by simp)]
      exact (List.filter_eq_self.2 (fun x hx => by simp; rintro rfl; exact hn'.1 hx)).symm
    · have hv : v ∈ s := by
        rcases List.mem_cons.1 h with h | h
        · exact absurd h.symm e
        · exact h
      rw [List.idxOf_cons, show (y == v) = false from beq_eq_false_iff_ne.2 e]
      simp only [cond_false, List.take_succ_cons, List.cons_append, List.drop_succ_cons]
      rw [take_drop_filter hn'.2 hv, List.filter_cons_of_pos (by simp [e])]
/-- without so many edges -/
def Cut (g : List (List Nat)) (es : List (Nat × Nat)) (P : List (List Nat)) : Prop := P.length = g.length ∧ ∀ (k : Nat) l r, g[k]? = some l → P[k]? = some r → r = l.filter fun x => decide ((k, x) ∉ es)
theorem Cut.begin (g : List (List Nat)) : Cut g [] g := ⟨rfl, fun k l r hl hr => by rw [hl] at hr; cases hr; exact (List.filter_eq_self.2 (fun x _ => by simp)).symm⟩
theorem Cut.has {g P : List (List Nat)} {es : List (Nat × Nat)} (h : Cut g es P) {u v : Nat} {l r : List Nat} (hl : g[u]? = some l) (hr : P[u]? = some r) (hv : v ∈ l) (hn : (u, v) ∉ es) : v ∈ r := by
  rw [h.2 u l r hl hr]
  exact List.mem_filter.2 ⟨hv, by simp [hn]⟩
theorem Cut.step {g P : List (List Nat)} (G : Gr g) {es : List (Nat × Nat)} (h : Cut g es P) {u v : Nat} {l r : List Nat} (hl : g[u]? = some l) (hr : P[u]? = some r) (hv : v ∈ r) : Cut g (es ++ [(u, v)]) (P.set u (r.take (r.idxOf v) ++ r.drop (r.idxOf v + 1))) := by
  have hrn : r.Nodup := by rw [h.2 u l r hl hr]; exact (rising_nodup (G.rising u l hl)).filter _
  have hu := (List.getElem?_eq_some_iff.1 hr).1
  refine ⟨by simp [h.1], fun k l' r' hl' hr' => ?_⟩
  by_cases e : k = u
  · subst e
    rw [List.getElem?_set_self hu] at hr'
    obtain rfl := Option.some.inj hr'
    rw [take_drop_filter hrn hv, h.2 k l' r hl' hr, List.filter_filter]
    refine List.filter_congr fun x hx => ?_
    simp only [List.mem_append, List.mem_singleton, Prod.mk.injEq, true_and, not_or, Bool.decide_and]
    rw [Bool.and_comm]
  · rw [List.getElem?_set_ne (fun h => e h.symm)] at hr'
    rw [h.2 k l' r' hl' hr']
    refine List.filter_congr fun x hx => ?_
    simp [e]
theorem Cut.end {g D P : List (List Nat)} (G : Gr g) (hD : IsDoms g D) (h : Cut g (backL g D) P) : P = fwd g D := by
  refine List.ext_getElem? fun k => ?_
  by_cases hk : k < g.length
  · obtain ⟨l, hl⟩ : ∃ l, g[k]? = some l := ⟨_, List.getElem?_eq_getElem hk⟩
    obtain ⟨r, hr⟩ : ∃ r, P[k]? = some r := ⟨_, List.getElem?_eq_getElem (by rw [h.1]; exact hk)⟩
    rw [hr, fwd_at hl, h.2 k l r hl hr]
    congr 1
    refine List.filter_congr fun x hx => ?_
    have : (k, x) ∈ backL g D ↔ isB D (k, x) = true := by
      unfold backL
      rw [List.mem_filter]
      refine ⟨fun h => h.2, fun hb => ⟨(edges_all G k x).2 ⟨((isB_dom hD k x).1 hb).2.1, l, hl, hx⟩, hb⟩⟩
    cases e : isB D (k, x) with
    | true => simp [this.2 e]
    | false => simp [this, e]
  · rw [List.getElem?_eq_none (by rw [h.1]; omega), List.getElem?_eq_none (by rw [fwd_len]; omega)]
theorem edges_once {g : List (List Nat)} (G : Gr g) : (edgesL g).Nodup := by
  unfold edgesL
  refine List.pairwise_flatMap.2 ⟨fun u hu => ?_, ?_⟩
  · unfold edgesAt
    rw [List.pairwise_map]
    cases e : g[u]? with
    | none => simp
    | some l => exact (rising_nodup (G.rising u l e)).imp (fun h h2 => h (by simpa using h2))
  · refine (setL_rising (order7 g)).imp (fun {a b} hab x hx y hy e => ?_)
    unfold edgesAt at hx hy
    obtain ⟨v1, _, rfl⟩ := List.mem_map.1 hx
    obtain ⟨v2, _, rfl⟩ := List.mem_map.1 hy
    have := congrArg Prod.fst e
    simp at this
    omega
theorem back_new {g D : List (List Nat)} (G : Gr g) {pre : List (Nat × Nat)} {x : Nat × Nat} (h : pre ++ [x] <+: backL g D) : x ∉ pre := by
  obtain ⟨rest, hr⟩ := h
  have hn : (backL g D).Nodup := (edges_once G).filter _
  rw [← hr] at hn
  intro hx
  have := (List.nodup_append.1 (List.nodup_append.1 hn).1).2.2 x hx x (by simp)
  exact this rfl
end

section
open Go Go.RowKit Go.Shelf
set_option linter.unusedVariables false

theorem opIn_round {F : Fence} {n : Nat} {P : Program} {o : Oper} {a : Act} {w : World} {K : Act → World → Prop} {Q : Exit → Act → World → Prop} (l : Nat) (hro : F.round = none) (hd : ∀ c, o.op ≠ .defer c) (h : o.wpIn F n P a w K Q) : o.wpIn (F.inRound l) n P a w K Q := by
  unfold Oper.wpIn at h ⊢
  refine ⟨h.1, ?_⟩
  have h2 := h.2
  rw [hro, Oper.semAt_none] at h2
  rw [Oper.semAt_eq _ _ _ hd]
  exact h2
theorem anyIn_round {F : Fence} {n : Nat} {P : Program} {md : Region.Mode} {ops : Array Oper} {Q : Exit → Act → World → Prop} (l : Nat) (hro : F.round = none) (hd : ∀ (i : Nat) (o : Oper), ops[i]? = some o → ∀ c, o.op ≠ .defer c) :
    ∀ (fuel : Nat) (listed : Array Bool) (a : Act) (w : World), wpAnyIn F n P md ops Q fuel listed a w → wpAnyIn (F.inRound l) n P md ops Q fuel listed a w
  | 0, _, _, _, h => h
  | fuel + 1, listed, a, w, h => by
    refine ⟨h.1, fun i hi => ?_⟩
    have h2 := h.2 i hi
    unfold wpOpIn at h2 ⊢
    cases ho : ops[i]? with
    | none => rw [ho] at h2; exact anyIn_round l hro hd fuel _ _ _ h2
    | some o =>
      rw [ho] at h2
      simp only [] at h2 ⊢
      by_cases hw : Region.wanted o (yielded ops a.tmps) = true
      · rw [if_pos hw] at h2 ⊢
        exact opIn_round l hro (hd i o ho) (Oper.wpIn_mono (fun a w hh => anyIn_round l hro hd fuel _ a w hh) h2)
      · rw [if_neg hw] at h2 ⊢
        exact ⟨h2.1, anyIn_round l hro hd fuel _ _ _ h2.2⟩
def noDefer (ops : Array Oper) : Bool := ops.all fun o => match o.op with | .defer _ => false | _ => true
theorem noDefer_spec {ops : Array Oper} (h : noDefer ops = true) : ∀ (i : Nat) (o : Oper), ops[i]? = some o → ∀ c, o.op ≠ .defer c := by
  intro i o ho c hc
  obtain ⟨hi, rfl⟩ := Array.getElem?_eq_some_iff.1 ho
  have := Array.all_eq_true.1 h i hi
  rw [hc] at this
  cases this
theorem region_round {F : Fence} {n : Nat} {P : Program} {id : Nat} {ops : Array Oper} {Q : Exit → Act → World → Prop} {a : Act} {w : World} {l : Nat} (hro : F.round = none) (hm : P.follows .mixedOrders = true) (hd : noDefer ops = true)
    (h : wpAnyIn F n P .any ops Q ops.size (Array.replicate ops.size false) a w.drew) : (Code.region id ops true).wpIn (F.inRound l) n P Q a w :=
  wpIn_region_any hm (anyIn_round l hro (noDefer_spec hd) _ _ _ _ h)
end

section
open Go
set_option linter.unusedVariables false

/-- a node of the loop of a head: the head, a start of a back edge to it, or one that leads to such a node without going through the head -/
inductive InB (g D : List (List Nat)) (h : Nat) : Nat → Prop
  | head : InB g D h h
  | start {u : Nat} : (u, h) ∈ backL g D → InB g D h u
  | back {x k : Nat} : InB g D h x → x ≠ h → Lead g k x → InB g D h k
def IsBody (g D : List (List Nat)) (h : Nat) (S : List Nat) : Prop := S.Pairwise (· < ·) ∧ ∀ x, x ∈ S ↔ InB g D h x
theorem IsBody.unique {g D : List (List Nat)} {h : Nat} {S T : List Nat} (a : IsBody g D h S) (b : IsBody g D h T) : S = T := rising_unique a.1 b.1 (fun x => (a.2 x).trans (b.2 x).symm)
theorem backL_lead {g D : List (List Nat)} (G : Gr g) {u v : Nat} (h : (u, v) ∈ backL g D) : Lead g u v := (edges_all G u v).1 (List.mem_filter.1 h).1
theorem Lead.come' {g : List (List Nat)} {u v : Nat} (h : Lead g u v) : Come g v := by
  obtain ⟨hc, l, hl, hv⟩ := h
  exact .step hc hl hv (by omega)
theorem InB.come {g D : List (List Nat)} (G : Gr g) {h x : Nat} (hh : Come g h) (i : InB g D h x) : Come g x := by
  cases i with
  | head => exact hh
  | start hb => exact (backL_lead G hb).1
  | back _ _ hl => exact hl.1
theorem IsBody.few {g D : List (List Nat)} (G : Gr g) {h : Nat} (hh : Come g h) {S : List Nat} (b : IsBody g D h S) : S.length ≤ 12 := by
  have h8 := nodup_le (n := g.length) (rising_nodup b.1) (fun x hx => RchW.lt G (((b.2 x).1 hx).come G hh))
  have := G.most
  omega
/-- the program: those that are found, and those that wait -/
structure Gath (g D : List (List Nat)) (h : Nat) (found waiting : List Nat) : Prop where
  rising : found.Pairwise (· < ·)
  foundIn : ∀ x ∈ found, InB g D h x
  waitIn : ∀ x ∈ waiting, InB g D h x
  head : h ∈ found
  starts : ∀ u, (u, h) ∈ backL g D → u ∈ found ∨ u ∈ waiting
  closed : ∀ x ∈ found, x ≠ h → ∀ k, Lead g k x → k ∈ found ∨ k ∈ waiting
theorem Gath.begin {g D : List (List Nat)} {h : Nat} {S : List Nat} (hS : ∀ u, u ∈ S ↔ (u, h) ∈ backL g D) : Gath g D h [h] S :=
  ⟨by simp, fun x hx => by simp at hx; subst hx; exact .head, fun x hx => .start ((hS x).1 hx), by simp, fun u hu => .inr ((hS u).2 hu), fun x hx hn => by simp at hx; exact absurd hx hn⟩
theorem Gath.skip {g D : List (List Nat)} {h a : Nat} {f w : List Nat} (s : Gath g D h f (a :: w)) (ha : a ∈ f) : Gath g D h f w := by
  refine ⟨s.rising, s.foundIn, fun x hx => s.waitIn x (List.mem_cons_of_mem _ hx), s.head, fun u hu => ?_, fun x hx hn k hk => ?_⟩
  · rcases s.starts u hu with h1 | h1
    · exact .inl h1
    · rcases List.mem_cons.1 h1 with rfl | h1
      · exact .inl ha
      · exact .inr h1
  · rcases s.closed x hx hn k hk with h1 | h1
    · exact .inl h1
    · rcases List.mem_cons.1 h1 with rfl | h1
      · exact .inl ha
      · exact .inr h1
theorem Gath.add {g D : List (List Nat)} {h a : Nat} {f w L : List Nat} (s : Gath g D h f (a :: w)) (ha : a ∉ f) (hL : ∀ k, k ∈ L ↔ Lead g k a) : Gath g D h (putL f a) (w ++ L) := by
  have hah : a ≠ h := fun e => ha (by rw [e]; exact s.head)
  have hin : InB g D h a := s.waitIn a (by simp)
  refine ⟨putL_rising s.rising a, fun x hx => ?_, fun x hx => ?_, (putL_mem f a h).2 (.inr s.head), fun u hu => ?_, fun x hx hn k hk => ?_⟩
  · rcases (putL_mem f a x).1 hx with rfl | hx
    · exact hin
    · exact s.foundIn x hx
  · rcases List.mem_append.1 hx with hx | hx
    · exact s.waitIn x (List.mem_cons_of_mem _ hx)
    · exact .back hin hah ((hL x).1 hx)
  · rcases s.starts u hu with h1 | h1
    · exact .inl ((putL_mem f a u).2 (.inr h1))
    · rcases List.mem_cons.1 h1 with rfl | h1
      · exact .inl ((putL_mem f _ _).2 (.inl rfl))
      · exact .inr (List.mem_append_left _ h1)
  · rcases (putL_mem f a x).1 hx with rfl | hx
    · exact .inr (List.mem_append_right _ ((hL k).2 hk))
    · rcases s.closed x hx hn k hk with h1 | h1
      · exact .inl ((putL_mem f a k).2 (.inr h1))
      · rcases List.mem_cons.1 h1 with rfl | h1
        · exact .inl ((putL_mem f _ _).2 (.inl rfl))
        · exact .inr (List.mem_append_left _ h1)
theorem Gath.end {g D : List (List Nat)} {h : Nat} {f : List Nat} (s : Gath g D h f []) : IsBody g D h f := by
  refine ⟨s.rising, fun x => ⟨s.foundIn x, fun i => ?_⟩⟩
  induction i with
  | head => exact s.head
  | start hb => exact (s.starts _ hb).resolve_right (by simp)
  | back _ hn hl ih => exact (s.closed _ ih hn _ hl).resolve_right (by simp)
/-- the model: what is gathered so far -/
structure Clos (g D : List (List Nat)) (h : Nat) (body : List Nat) : Prop where
  rising : body.Pairwise (· < ·)
  bodyIn : ∀ x ∈ body, InB g D h x
  head : h ∈ body
  starts : ∀ u, (u, h) ∈ backL g D → u ∈ body
theorem Clos.put {g D : List (List Nat)} {h k x : Nat} {body : List Nat} (s : Clos g D h body) (hx : x ∈ body) (hn : x ≠ h) (hl : Lead g k x) : Clos g D h (putL body k) := by
  refine ⟨putL_rising s.rising k, fun y hy => ?_, (putL_mem _ _ _).2 (.inr s.head), fun u hu => (putL_mem _ _ _).2 (.inr (s.starts u hu))⟩
  rcases (putL_mem body k y).1 hy with rfl | hy
  · exact .back (s.bodyIn x hx) hn hl
  · exact s.bodyIn y hy
theorem Clos.end {g D : List (List Nat)} {h : Nat} {body : List Nat} (s : Clos g D h body) (he : ∀ k x, Lead g k x → k ∉ body → x ≠ h → x ∉ body) : IsBody g D h body := by
  refine ⟨s.rising, fun x => ⟨s.bodyIn x, fun i => ?_⟩⟩
  induction i with
  | head => exact s.head
  | start hb => exact s.starts _ hb
  | @back x k _ hn hl ih => exact Classical.byContradiction fun hk => he k x hl hk hn ih
/-- there is a loop of each head, and one alone -/
theorem body_is {g D : List (List Nat)} (G : Gr g) {h : Nat} (hh : Come g h) : ∃ S, IsBody g D h S := by
  classical
  refine ⟨(List.range g.length).filter fun x => decide (InB g D h x), List.Pairwise.filter _ List.pairwise_lt_range, fun x => ?_⟩
  rw [List.mem_filter, List.mem_range, decide_eq_true_iff]
  exact ⟨fun h => h.2, fun i => ⟨RchW.lt G (i.come G hh), i⟩⟩
end

section
open Go
set_option linter.unusedVariables false

def isHead (g D : List (List Nat)) (h : Nat) : Bool := (backL g D).any fun e => e.2 == h
theorem isHead_iff {g D : List (List Nat)} {h : Nat} : isHead g D h = true ↔ ∃ u, (u, h) ∈ backL g D := by
  unfold isHead
  rw [List.any_eq_true]
  constructor
  · rintro ⟨⟨u, v⟩, hm, he⟩
    have : v = h := by simpa using he
    subst this
    exact ⟨u, hm⟩
  · rintro ⟨u, hm⟩
    exact ⟨(u, h), hm, by simp⟩
theorem isHead.come {g D : List (List Nat)} (G : Gr g) {h : Nat} (hh : isHead g D h = true) : Come g h := by
  obtain ⟨u, hu⟩ := isHead_iff.1 hh
  exact (backL_lead G hu).come'
/-- the loops of the heads below m -/
structure Rings (g D : List (List Nat)) (m : Nat) (L : List (Nat × List Nat)) : Prop where
  heads : L.map Prod.fst = (List.range m).filter (isHead g D)
  body : ∀ x ∈ L, IsBody g D x.1 x.2
theorem Rings.begin (g D : List (List Nat)) : Rings g D 0 [] := ⟨rfl, by simp⟩
theorem Rings.skip {g D : List (List Nat)} {m : Nat} {L : List (Nat × List Nat)} (r : Rings g D m L) (h : isHead g D m = false) : Rings g D (m + 1) L := ⟨by rw [r.heads, List.range_succ, List.filter_append]; simp [h], r.body⟩
theorem Rings.add {g D : List (List Nat)} {m : Nat} {L : List (Nat × List Nat)} {S : List Nat} (r : Rings g D m L) (h : isHead g D m = true) (b : IsBody g D m S) : Rings g D (m + 1) (L ++ [(m, S)]) := by
  refine ⟨by rw [List.map_append, r.heads, List.range_succ, List.filter_append]; simp [h], fun x hx => ?_⟩
  rcases List.mem_append.1 hx with hx | hx
  · exact r.body x hx
  · simp at hx
    subst hx
    exact b
theorem map_unique {g D : List (List Nat)} : ∀ {L M : List (Nat × List Nat)}, L.map Prod.fst = M.map Prod.fst → (∀ x ∈ L, IsBody g D x.1 x.2) → (∀ x ∈ M, IsBody g D x.1 x.2) → L = M
  | [], [], _, _, _ => rfl
  | [], _ :: _, h, _, _ => by simp at h
  | _ :: _, [], h, _, _ => by simp at h
  | (h, S) :: L, (k, T) :: M, e, a, b => by
    simp only [List.map_cons, List.cons.injEq] at e
    obtain ⟨rfl, e⟩ := e
    have h1 : S = T := (a (h, S) (by simp)).unique (b (h, T) (by simp))
    have h2 : L = M := map_unique e (fun x hx => a x (by simp [hx])) (fun x hx => b x (by simp [hx]))
    rw [h1, h2]
theorem Rings.unique {g D : List (List Nat)} {m : Nat} {L M : List (Nat × List Nat)} (a : Rings g D m L) (b : Rings g D m M) : L = M := map_unique (a.heads.trans b.heads.symm) a.body b.body
theorem Rings.le {g D : List (List Nat)} {m : Nat} {L : List (Nat × List Nat)} (a : Rings g D m L) : L.length ≤ m := by
  have h1 : (L.map Prod.fst).length ≤ m := by
    rw [a.heads]
    exact Nat.le_trans (List.length_filter_le _ _) (by simp)
  simpa using h1
theorem Rings.mem {g D : List (List Nat)} {m : Nat} {L : List (Nat × List Nat)} (a : Rings g D m L) {x : Nat × List Nat} (hx : x ∈ L) : x.1 < m ∧ isHead g D x.1 = true ∧ IsBody g D x.1 x.2 := by
  have h1 : x.1 ∈ L.map Prod.fst := List.mem_map.2 ⟨x, hx, rfl⟩
  rw [a.heads, List.mem_filter, List.mem_range] at h1
  exact ⟨h1.1, h1.2, a.body x hx⟩
theorem Rings.rising {g D : List (List Nat)} {m : Nat} {L : List (Nat × List Nat)} (a : Rings g D m L) : (L.map Prod.fst).Pairwise (· < ·) := by
  rw [a.heads]
  exact List.Pairwise.filter _ List.pairwise_lt_range
/-- there are such loops -/
theorem rings_is {g D : List (List Nat)} (G : Gr g) : ∀ m, ∃ L, Rings g D m L
  | 0 => ⟨[], Rings.begin g D⟩
  | m + 1 => by
    obtain ⟨L, hL⟩ := rings_is G m
    cases h : isHead g D m
    · exact ⟨L, hL.skip h⟩
    · obtain ⟨S, hS⟩ := body_is (D := D) G (isHead.come G h)
      exact ⟨_, hL.add h hS⟩
def lessThan (L : List (Nat × List Nat)) (x : Nat × List Nat) : Option Nat → Bool
  | none => true
  | some b => decide (x.2.length < ((L[b]?).getD x).2.length)
/-- the place of the least of those that fit, of as great ones the first -/
def leastTo (L : List (Nat × List Nat)) (p : Nat × List Nat → Bool) : Nat → Option Nat
  | 0 => none
  | k + 1 => match L[k]? with
    | none => leastTo L p k
    | some x => if (p x && lessThan L x (leastTo L p k)) = true then some k else leastTo L p k
theorem leastTo_lt {L : List (Nat × List Nat)} {p : Nat × List Nat → Bool} : ∀ {k b : Nat}, leastTo L p k = some b → b < k ∧ b < L.length
  | 0, b, h => by simp [leastTo] at h
  | k + 1, b, h => by
    unfold leastTo at h
    cases hx : L[k]? with
    | none =>
      rw [hx] at h
      have := leastTo_lt h
      omega
    | some x =>
      rw [hx] at h
      dsimp only at h
      have hk : k < L.length := (List.getElem?_eq_some_iff.1 hx).1
      split at h
      · injection h with h
        omega
      · have := leastTo_lt h
        omega
end

section
open Go
set_option linter.unusedVariables false

/-- whether all of one list lie in another -/
def allIn (a b : List Nat) : Bool := b.all fun x => decide (x ∈ a)
/-- the loops that a loop may lie in -/
def liesIn (L : List (Nat × List Nat)) (i : Nat) (x : Nat × List Nat) : Bool := match L[i]? with
  | none => false
  | some y => decide (x.1 ≠ y.1) && allIn x.2 y.2
def upI : Option Nat → Int
  | none => -1
  | some b => b
/-- the place of the loop that a loop lies in, of the first so many -/
def upTo (L : List (Nat × List Nat)) (i k : Nat) : Int := upI (leastTo L (liesIn L i) k)
theorem upTo_zero (L : List (Nat × List Nat)) (i : Nat) : upTo L i 0 = -1 := rfl
theorem upTo_step {L : List (Nat × List Nat)} {i k : Nat} {x : Nat × List Nat} (hx : L[k]? = some x) (h : liesIn L i x = false) : upTo L i (k + 1) = upTo L i k := by
  unfold upTo
  conv => lhs; unfold leastTo
  rw [hx]
  simp [h]
theorem upTo_new {L : List (Nat × List Nat)} {i k : Nat} {x : Nat × List Nat} (hx : L[k]? = some x) (h : liesIn L i x = true) (hn : upTo L i k < 0) : upTo L i (k + 1) = k := by
  unfold upTo at hn ⊢
  unfold leastTo
  rw [hx]
  cases he : leastTo L (liesIn L i) k with
  | none => simp [h, upI, lessThan]
  | some b => rw [he] at hn; simp [upI] at hn; omega
theorem upTo_less {L : List (Nat × List Nat)} {i k b : Nat} {x y : Nat × List Nat} (hx : L[k]? = some x) (h : liesIn L i x = true) (hb : upTo L i k = b) (hy : L[b]? = some y) : upTo L i (k + 1) = if x.2.length < y.2.length then (k : Int) else b := by
  unfold upTo at hb ⊢
  conv => lhs; unfold leastTo
  rw [hx]
  cases he : leastTo L (liesIn L i) k with
  | none => rw [he] at hb; simp [upI] at hb; try omega
  | some b' =>
    rw [he] at hb
    have hbb : b' = b := by have h1 : ((b' : Nat) : Int) = (b : Int) := hb; omega
    subst hbb
    simp only [h, hy, lessThan, Bool.true_and, Option.getD_some]
    by_cases hl : x.2.length < y.2.length
    · simp [hl, upI]
    · simp [hl, upI]
theorem upTo_range {L : List (Nat × List Nat)} {i k : Nat} (h : ¬ upTo L i k < 0) : ∃ b, upTo L i k = (b : Nat) ∧ b < L.length := by
  unfold upTo at h ⊢
  cases he : leastTo L (liesIn L i) k with
  | none => rw [he] at h; simp [upI] at h
  | some b => exact ⟨b, rfl, (leastTo_lt he).2⟩
theorem upTo_bound {L : List (Nat × List Nat)} {i k : Nat} : -1 ≤ upTo L i k ∧ upTo L i k ≤ L.length := by
  by_cases h : upTo L i k < 0
  · unfold upTo at h ⊢
    cases he : leastTo L (liesIn L i) k with
    | none => simp [upI]; try omega
    | some b => rw [he] at h; simp [upI] at h; omega
  · obtain ⟨b, hb, hl⟩ := upTo_range h
    omega
/-- the heads are unlike -/
theorem Rings.apart {g D : List (List Nat)} {m : Nat} {L : List (Nat × List Nat)} (a : Rings g D m L) {i k : Nat} {x y : Nat × List Nat} (hx : L[i]? = some x) (hy : L[k]? = some y) : x.1 = y.1 ↔ i = k := by
  have hr := List.pairwise_iff_getElem.1 a.rising
  have hil := (List.getElem?_eq_some_iff.1 hx).1
  have hkl := (List.getElem?_eq_some_iff.1 hy).1
  have hix := (List.getElem?_eq_some_iff.1 hx).2
  have hky := (List.getElem?_eq_some_iff.1 hy).2
  constructor
  · intro e
    rcases Nat.lt_trichotomy i k with h | h | h
    · have := hr i k (by simpa using hil) (by simpa using hkl) h
      simp only [List.getElem_map, hix, hky] at this
      omega
    · exact h
    · have := hr k i (by simpa using hkl) (by simpa using hil) h
      simp only [List.getElem_map, hix, hky] at this
      omega
  · rintro rfl
    rw [hx] at hy
    injection hy with e
    rw [e]
theorem liesIn_self {g D : List (List Nat)} {m : Nat} {L : List (Nat × List Nat)} (a : Rings g D m L) {i : Nat} {x : Nat × List Nat} (hx : L[i]? = some x) : liesIn L i x = false := by unfold liesIn; rw [hx]; simp
theorem liesIn_other {g D : List (List Nat)} {m : Nat} {L : List (Nat × List Nat)} (a : Rings g D m L) {i k : Nat} {x y : Nat × List Nat} (hx : L[k]? = some x) (hy : L[i]? = some y) (h : i ≠ k) : liesIn L i x = allIn x.2 y.2 := by
  unfold liesIn
  rw [hy]
  have : x.1 ≠ y.1 := fun e => h ((a.apart hx hy).1 e).symm
  simp [this]
/-- the model's body, while the back edges are gone through -/
def Bgn (h : Nat) (es : List (Nat × Nat)) (body : List Nat) : Prop := body.Pairwise (· < ·) ∧ ∀ x, x ∈ body ↔ x = h ∨ (x, h) ∈ es
theorem Bgn.begin (h : Nat) : Bgn h [] [h] := ⟨by simp, by simp⟩
theorem Bgn.skip {h : Nat} {es : List (Nat × Nat)} {body : List Nat} (b : Bgn h es body) {u v : Nat} (hv : v ≠ h) : Bgn h (es ++ [(u, v)]) body := ⟨b.1, fun x => by rw [b.2 x, List.mem_append, List.mem_singleton, Prod.mk.injEq]; exact ⟨fun h => h.imp id .inl, fun h => h.imp id fun h => h.resolve_right fun e => hv e.2.symm⟩⟩
theorem Bgn.put {h : Nat} {es : List (Nat × Nat)} {body : List Nat} (b : Bgn h es body) (u : Nat) : Bgn h (es ++ [(u, h)]) (putL body u) := by
  refine ⟨putL_rising b.1 u, fun x => ?_⟩
  rw [putL_mem, b.2 x, List.mem_append, List.mem_singleton, Prod.mk.injEq]
  constructor
  · rintro (rfl | rfl | h1)
    · exact .inr (.inr ⟨rfl, rfl⟩)
    · exact .inl rfl
    · exact .inr (.inl h1)
  · rintro (rfl | h1 | ⟨rfl, -⟩)
    · exact .inr (.inl rfl)
    · exact .inr (.inr h1)
    · exact .inl rfl
theorem Bgn.clos {g D : List (List Nat)} {h : Nat} {body : List Nat} (b : Bgn h (backL g D) body) : Clos g D h body := ⟨b.1, fun x hx => by
  rcases (b.2 x).1 hx with rfl | h1
  · exact .head
  · exact .start h1, (b.2 h).2 (.inl rfl), fun u hu => (b.2 u).2 (.inr hu)⟩
theorem Clos.few {g D : List (List Nat)} (G : Gr g) {h : Nat} (hh : Come g h) {body : List Nat} (s : Clos g D h body) : body.length ≤ 12 := by
  have h8 := nodup_le (n := g.length) (rising_nodup s.rising) (fun x hx => RchW.lt G ((s.bodyIn x hx).come G hh))
  have := G.most
  omega
theorem putL_one {l : List Nat} (hl : l.Pairwise (· < ·)) {n : Nat} (h : n ∉ l) : (putL l n).length = l.length + 1 := by
  rw [putL_pos hl h]
  have := posL_le l n
  simp
  omega
/-- a round of the model's search: what is found grows, or all of it was looked at -/
structure Grow (g D : List (List Nat)) (h : Nat) (b0 : List Nat) (ks : List Nat) (b : Bool) (body : List Nat) : Prop where
  clos : Clos g D h body
  le : b0.length ≤ body.length
  more : b = true → b0.length < body.length
  same : b = false → body = b0 ∧ ∀ k ∈ ks, k ∉ b0 → ∀ l, g[k]? = some l → ∀ x ∈ l, x ≠ h → x ∉ b0
theorem Grow.begin {g D : List (List Nat)} {h : Nat} {b0 : List Nat} (c : Clos g D h b0) : Grow g D h b0 [] false b0 := ⟨c, Nat.le_refl _, (fun e => by cases e), fun _ => ⟨rfl, by simp⟩⟩
theorem Grow.skip {g D : List (List Nat)} {h : Nat} {b0 ks body : List Nat} {b : Bool} (s : Grow g D h b0 ks b body) {k : Nat} (hk : k ∈ body) : Grow g D h b0 (ks ++ [k]) b body := ⟨s.clos, s.le, s.more, fun e => ⟨(s.same e).1, fun j hj hn => by
  rcases List.mem_append.1 hj with hj | hj
  · exact (s.same e).2 j hj hn
  · simp at hj
    subst hj
    rw [(s.same e).1] at hk
    exact absurd hk hn⟩⟩
/-- the same, within the edges of one node -/
structure Grow1 (g D : List (List Nat)) (h : Nat) (b0 : List Nat) (ks : List Nat) (k : Nat) (xs : List Nat) (b : Bool) (body : List Nat) : Prop where
  grow : Grow g D h b0 ks b body
  inn : k ∈ body → b = true
  none : b = false → ∀ x ∈ xs, x ≠ h → x ∉ b0
theorem Grow1.begin {g D : List (List Nat)} {h : Nat} {b0 ks body : List Nat} {b : Bool} {k : Nat} (s : Grow g D h b0 ks b body) (hk : k ∉ body) : Grow1 g D h b0 ks k [] b body := ⟨s, fun h => absurd h hk, fun _ => by simp⟩
theorem Grow1.skip {g D : List (List Nat)} {h : Nat} {b0 ks xs body : List Nat} {b : Bool} {k x : Nat} (s : Grow1 g D h b0 ks k xs b body) (hx : x = h ∨ x ∉ body) : Grow1 g D h b0 ks k (xs ++ [x]) b body := ⟨s.grow, s.inn, fun e y hy hn => by
  rcases List.mem_append.1 hy with hy | hy
  · exact s.none e y hy hn
  · simp at hy
    subst hy
    have := (s.grow.same e).1
    rw [← this]
    exact hx.resolve_left hn⟩
theorem Grow1.put {g D : List (List Nat)} {h : Nat} {b0 ks xs body : List Nat} {b : Bool} {k x : Nat} (s : Grow1 g D h b0 ks k xs b body) (hx : x ∈ body) (hn : x ≠ h) (hl : Lead g k x) : Grow1 g D h b0 ks k (xs ++ [x]) true (putL body k) := by
  have hle := s.grow.le
  have hlt : b0.length < (putL body k).length := by
    by_cases hk : k ∈ body
    · rw [putL_same s.grow.clos.rising hk]
      exact s.grow.more (s.inn hk)
    · rw [putL_one s.grow.clos.rising hk]
      omega
  exact ⟨⟨s.grow.clos.put hx hn hl, Nat.le_of_lt hlt, fun _ => hlt, (fun e => by cases e)⟩, fun _ => rfl, (fun e => by cases e)⟩
theorem Grow1.end {g D : List (List Nat)} {h : Nat} {b0 ks l body : List Nat} {b : Bool} {k : Nat} (s : Grow1 g D h b0 ks k l b body) (hl : g[k]? = some l) : Grow g D h b0 (ks ++ [k]) b body := ⟨s.grow.clos, s.grow.le, s.grow.more, fun e => ⟨(s.grow.same e).1, fun j hj hn l' hl' => by
  rcases List.mem_append.1 hj with hj | hj
  · exact (s.grow.same e).2 j hj hn l' hl'
  · simp at hj
    subst hj
    rw [hl] at hl'
    injection hl' with e2
    subst e2
    exact s.none e⟩⟩
theorem Grow.end {g D : List (List Nat)} {h : Nat} {b0 ks body : List Nat} (s : Grow g D h b0 ks false body) (hks : ∀ k, k ∈ ks ↔ Come g k) : IsBody g D h body := by
  obtain ⟨rfl, hc⟩ := s.same rfl
  refine s.clos.end fun k x hl hk hn => ?_
  obtain ⟨h1, l, h2, h3⟩ := hl
  exact hc k ((hks k).2 h1) hk l h2 x h3 hn
end

section
open Go Go.RowKit
set_option linter.unusedVariables false
set_option linter.unusedSimpArgs false
set_option maxRecDepth 100000

/-- a loop as it lies: its head, its body, the slice of that -/
structure RV where
  h : Nat
  s : List Nat
  v : Value
def cellsR (ys : List RV) : List Value := ys.flatMap fun y => [.int .i64 (y.h : Int), y.v]
def rowR (y : RV) : OR := ⟨3, 1, y.v, y.s.length, ints (nats y.s)⟩
def loopsR (ys : List RV) : List (Nat × List Nat) := ys.map fun y => (y.h, y.s)
def OwnG (w : World) (B : Nat) (v : Value) (ys : List RV) : Prop := Sep w B (⟨62, 2, v, ys.length, cellsR ys⟩ :: ys.map rowR)
theorem cellsR_at : ∀ {ys : List RV} {i : Nat} {y : RV}, ys[i]? = some y → (cellsR ys)[i * 2]? = some (.int .i64 (y.h : Int)) ∧ (cellsR ys)[i * 2 + 1]? = some y.v
  | [], i, y, h => by simp at h
  | x :: xs, 0, y, h => by
    simp at h
    subst h
    exact ⟨rfl, rfl⟩
  | x :: xs, i + 1, y, h => by
    have := cellsR_at (ys := xs) (i := i) (y := y) (by simpa using h)
    rw [show (i + 1) * 2 = i * 2 + 1 + 1 by omega]
    show ([.int .i64 (x.h : Int), x.v] ++ cellsR xs)[_]? = _ ∧ ([.int .i64 (x.h : Int), x.v] ++ cellsR xs)[_]? = _
    exact ⟨by simpa using this.1, by simpa using this.2⟩
theorem cellsR_len (ys : List RV) : (cellsR ys).length = 2 * ys.length := by
  induction ys with
  | nil => rfl
  | cons y ys ih => show ([.int .i64 (y.h : Int), y.v] ++ cellsR ys).length = _; rw [List.length_append, ih]; simp; omega
theorem cellsR_snoc (ys : List RV) (y : RV) : cellsR (ys ++ [y]) = cellsR ys ++ [.int .i64 (y.h : Int), y.v] := by simp [cellsR]
theorem loopsR_len (ys : List RV) : (loopsR ys).length = ys.length := by simp [loopsR]
theorem loopsR_snoc (ys : List RV) (y : RV) : loopsR (ys ++ [y]) = loopsR ys ++ [(y.h, y.s)] := by simp [loopsR]
theorem loopsR_at {ys : List RV} {i : Nat} {y : RV} (h : ys[i]? = some y) : (loopsR ys)[i]? = some (y.h, y.s) := by simp [loopsR, h]
theorem loopsR_back {ys : List RV} {i : Nat} {x : Nat × List Nat} (h : (loopsR ys)[i]? = some x) : ∃ y, ys[i]? = some y ∧ x = (y.h, y.s) := by
  rw [loopsR, List.getElem?_map] at h
  cases hy : ys[i]? with
  | none => rw [hy] at h; simp at h
  | some y => rw [hy] at h; simp at h; exact ⟨y, rfl, h.symm⟩
theorem OwnG.nil (w : World) (B : Nat) : OwnG w B (.slice none 0 0) [] := Sep.cons (Sep.nil _ _) (World.ownsRow_nil _ _ _ _) (by simp)
theorem OwnG.below {w w' : World} {B : Nat} {v : Value} {ys : List RV} (h : OwnG w B v ys) (hb : Below w.heap.size w w') : OwnG w' B v ys := Sep.below h hb
theorem OwnG.mono {w : World} {B B' : Nat} {v : Value} {ys : List RV} (h : OwnG w B v ys) (hB : B' ≤ B) : OwnG w B' v ys := Sep.mono h hB
theorem OwnG.slice {w : World} {B : Nat} {v : Value} {ys : List RV} (h : OwnG w B v ys) : ∃ a c, v = .slice a ys.length c := by
  have := Sep.get h (x := ⟨62, 2, v, ys.length, cellsR ys⟩) (by simp)
  rcases this.2 with ⟨h0, h1⟩ | ⟨g', cap, cur, he, _⟩
  · simp only [] at h0 h1 ⊢
    first | exact ⟨_, _, by rw [h0]; exact h1⟩ | exact ⟨_, _, by rw [h1]; exact h0⟩
  · exact ⟨_, _, he⟩
/-- what lies at a place -/
theorem OwnG.at {w : World} {B : Nat} {a : Option Addr} {c n : Nat} {ys : List RV} (h : OwnG w B (.slice a n c) ys) {i : Nat} {y : RV} (hy : ys[i]? = some y) : ∃ b ra rc, a = some ⟨b, 0, none⟩ ∧ B ≤ b ∧ b < w.heap.size ∧ w.cell? ⟨b, i * 2, none⟩ = some (.int .i64 (y.h : Int)) ∧ w.cell? ⟨b, i * 2 + 1, none⟩ = some (.slice ra y.s.length rc) ∧ w.ownsRow B 3 1 (.slice ra y.s.length rc) y.s.length (ints (nats y.s)) ∧ y.v = .slice ra y.s.length rc := by
  have ho := Sep.get h (x := ⟨62, 2, .slice a n c, ys.length, cellsR ys⟩) (by simp)
  have hr := Sep.get h (x := rowR y) (List.mem_cons_of_mem _ (List.mem_map_of_mem (List.mem_of_getElem? hy)))
  have hi := (List.getElem?_eq_some_iff.1 hy).1
  obtain ⟨b, rfl⟩ : ∃ b, a = some ⟨b, 0, none⟩ := by
    rcases ho.2 with ⟨h0, h1⟩ | ⟨g', cap, cur, he, _⟩
    · simp only [] at h0 h1; omega
    · injection he with e1 _ _; exact ⟨g', e1⟩
  obtain ⟨ra, rc, hv⟩ : ∃ ra rc, y.v = .slice ra y.s.length rc := by
    rcases hr.2 with ⟨h0, h1⟩ | ⟨g', cap, cur, he, _⟩
    · simp only [rowR] at h0 h1
      first | exact ⟨_, _, by rw [h0]; exact h1⟩ | exact ⟨_, _, by rw [h1]; exact h0⟩
    · exact ⟨_, _, he⟩
  have hs := Sep.size h (x := ⟨62, 2, .slice (some ⟨b, 0, none⟩) n c, ys.length, cellsR ys⟩) (by simp) (g := b) rfl
  refine ⟨b, ra, rc, rfl, hs.1, hs.2, rowT_at ho rfl (cellsR_at hy).1, ?_, ?_, hv⟩
  · rw [← hv]
    exact rowT_at ho rfl (cellsR_at hy).2
  · rw [← hv]
    exact hr
theorem info78 : (Tryz.prog.info? 62).map (fun i => (i.zero, i.size, i.bytes)) = some (some (.agg #[.int .i64 0, .slice none 0 0]), 2, 32) := by kernel_rfl
theorem eltRing : Elt 56 62 2 32 := by
  obtain ⟨i0, hi, hz0, hz1, hz2⟩ := info_parts info78
  exact ⟨i0, _, Tryz.underlying56, hi, hz0, hz1, hz2, by simp [Value.cells], by omega, by omega⟩
theorem News.two (w : World) (u v : Value) (t : TypeId) (nb : Nat) (hnb : w.heap.size = nb) (h1 : u.oneCell' = true) (h2 : v.oneCell' = true) : News (w.alloc (.cells #[u, v] t)) (some ⟨nb, 0, none⟩) 1 2 [u, v] := by
  subst hnb
  refine ⟨rfl, by simp [h1, h2], .inr ⟨_, rfl, fun j x hj => ?_⟩⟩
  match j, hj with
  | 0, hj => simp at hj; subst hj; rw [addr_add]; simp [go_sem]
  | 1, hj => simp at hj; subst hj; rw [addr_add]; simp [go_sem]
/-- one more row of a body, ahead of its ring -/
theorem OwnG.with {w w' : World} {B : Nat} {v : Value} {ys : List RV} (h : OwnG w B v ys) (hb : Below w.heap.size w w') (hB : B ≤ w.heap.size) (y : RV) (hy : w'.ownsRow w.heap.size 3 1 y.v y.s.length (ints (nats y.s))) : Sep w' B ([] ++ ⟨62, 2, v, ys.length, cellsR ys⟩ :: (ys ++ [y]).map rowR) := by
  have := Sep.append h hb hB (m := [rowR y]) (Sep.cons (Sep.nil _ _) hy (by simp))
  simpa using this
theorem OwnG.grown {w : World} {B : Nat} {v : Value} {ys : List RV} {y : RV} (h : Sep w B ([] ++ ⟨62, 2, v, ys.length + 1, cellsR ys ++ [.int .i64 (y.h : Int), y.v]⟩ :: (ys ++ [y]).map rowR)) : OwnG w B v (ys ++ [y]) := by
  unfold OwnG
  rw [cellsR_snoc, List.length_append]
  exact h
end

section
open Go Go.RowKit
set_option linter.unusedVariables false
set_option linter.unusedSimpArgs false
set_option maxRecDepth 100000

/-- a loop as it lies: its head, its body, the slice of that, and where it lies -/
structure PV where
  h : Nat
  s : List Nat
  v : Value
  up : Int
def cellsP (ys : List PV) : List Value := ys.flatMap fun y => [.int .i64 (y.h : Int), y.v, .int .i64 y.up]
def rowP (y : PV) : OR := ⟨3, 1, y.v, y.s.length, ints (nats y.s)⟩
def loopsP (ys : List PV) : List (Nat × List Nat) := ys.map fun y => (y.h, y.s)
def OwnP (w : World) (B : Nat) (v : Value) (ys : List PV) : Prop := Sep w B (⟨37, 3, v, ys.length, cellsP ys⟩ :: ys.map rowP)
theorem cellsP_at : ∀ {ys : List PV} {i : Nat} {y : PV}, ys[i]? = some y → (cellsP ys)[i * 3]? = some (.int .i64 (y.h : Int)) ∧ (cellsP ys)[i * 3 + 1]? = some y.v ∧ (cellsP ys)[i * 3 + 2]? = some (.int .i64 y.up)
  | [], i, y, h => by simp at h
  | x :: xs, 0, y, h => by
    simp at h
    subst h
    exact ⟨rfl, rfl, rfl⟩
  | x :: xs, i + 1, y, h => by
    have := cellsP_at (ys := xs) (i := i) (y := y) (by simpa using h)
    rw [show (i + 1) * 3 = i * 3 + 1 + 1 + 1 by omega]
    show ([.int .i64 (x.h : Int), x.v, .int .i64 x.up] ++ cellsP xs)[_]? = _ ∧ ([.int .i64 (x.h : Int), x.v, .int .i64 x.up] ++ cellsP xs)[_]? = _ ∧ ([.int .i64 (x.h : Int), x.v, .int .i64 x.up] ++ cellsP xs)[_]? = _
    exact ⟨by simpa using this.1, by simpa using this.2.1, by simpa using this.2.2⟩
theorem cellsP_up : ∀ {ys : List PV} {i : Nat} {y : PV} (k : Int), ys[i]? = some y → (cellsP ys).set (i * 3 + 2) (.int .i64 k) = cellsP (ys.set i { y with up := k })
  | [], i, y, k, h => by simp at h
  | x :: xs, 0, y, k, h => by
    simp at h
    subst h
    rfl
  | x :: xs, i + 1, y, k, h => by
    have := cellsP_up (ys := xs) (i := i) (y := y) k (by simpa using h)
    rw [show (i + 1) * 3 + 2 = i * 3 + 2 + 1 + 1 + 1 by omega]
    show ([.int .i64 (x.h : Int), x.v, .int .i64 x.up] ++ cellsP xs).set _ _ = [.int .i64 (x.h : Int), x.v, .int .i64 x.up] ++ cellsP (xs.set i { y with up := k })
    rw [← this]
    rfl
theorem cellsP_snoc (ys : List PV) (y : PV) : cellsP (ys ++ [y]) = cellsP ys ++ [.int .i64 (y.h : Int), y.v, .int .i64 y.up] := by simp [cellsP]
theorem loopsP_len (ys : List PV) : (loopsP ys).length = ys.length := by simp [loopsP]
theorem loopsP_snoc (ys : List PV) (y : PV) : loopsP (ys ++ [y]) = loopsP ys ++ [(y.h, y.s)] := by simp [loopsP]
theorem loopsP_at {ys : List PV} {i : Nat} {y : PV} (h : ys[i]? = some y) : (loopsP ys)[i]? = some (y.h, y.s) := by simp [loopsP, h]
theorem loopsP_set {ys : List PV} {i : Nat} {y : PV} (k : Int) (h : ys[i]? = some y) : loopsP (ys.set i { y with up := k }) = loopsP ys := by
  unfold loopsP
  rw [List.map_set]
  refine List.ext_getElem? fun j => ?_
  rw [List.getElem?_set]
  split
  · subst_vars
    split
    · simp [h]
    · rename_i hn
      simp at hn
      have := (List.getElem?_eq_some_iff.1 h).1
      omega
  · rfl
theorem OwnP.nil (w : World) (B : Nat) : OwnP w B (.slice none 0 0) [] := Sep.cons (Sep.nil _ _) (World.ownsRow_nil _ _ _ _) (by simp)
theorem OwnP.below {w w' : World} {B : Nat} {v : Value} {ys : List PV} (h : OwnP w B v ys) (hb : Below w.heap.size w w') : OwnP w' B v ys := Sep.below h hb
theorem OwnP.mono {w : World} {B B' : Nat} {v : Value} {ys : List PV} (h : OwnP w B v ys) (hB : B' ≤ B) : OwnP w B' v ys := Sep.mono h hB
theorem OwnP.slice {w : World} {B : Nat} {v : Value} {ys : List PV} (h : OwnP w B v ys) : ∃ a c, v = .slice a ys.length c := slice_of_owned (Sep.get h (x := ⟨37, 3, v, ys.length, cellsP ys⟩) (by simp))
/-- what lies at a place -/
theorem OwnP.at {w : World} {B : Nat} {a : Option Addr} {c n : Nat} {ys : List PV} (h : OwnP w B (.slice a n c) ys) {i : Nat} {y : PV} (hy : ys[i]? = some y) : ∃ b ra rc, a = some ⟨b, 0, none⟩ ∧ B ≤ b ∧ b < w.heap.size ∧ w.cell? ⟨b, i * 3, none⟩ = some (.int .i64 (y.h : Int)) ∧ w.cell? ⟨b, i * 3 + 1, none⟩ = some (.slice ra y.s.length rc) ∧ w.cell? ⟨b, i * 3 + 2, none⟩ = some (.int .i64 y.up) ∧ w.frozen? ⟨b, i * 3 + 2, none⟩ = false ∧ w.ownsRow B 3 1 (.slice ra y.s.length rc) y.s.length (ints (nats y.s)) ∧ y.v = .slice ra y.s.length rc := by
  have ho := Sep.get h (x := ⟨37, 3, .slice a n c, ys.length, cellsP ys⟩) (by simp)
  have hr := Sep.get h (x := rowP y) (List.mem_cons_of_mem _ (List.mem_map_of_mem (List.mem_of_getElem? hy)))
  have hi := (List.getElem?_eq_some_iff.1 hy).1
  obtain ⟨b, rfl⟩ : ∃ b, a = some ⟨b, 0, none⟩ := by
    rcases ho.2 with ⟨h0, h1⟩ | ⟨g', cap, cur, he, _⟩
    · simp only [] at h0 h1; omega
    · injection he with e1 _ _; exact ⟨g', e1⟩
  obtain ⟨ra, rc, hv⟩ : ∃ ra rc, y.v = .slice ra y.s.length rc := slice_of_owned hr
  have hs := Sep.size h (x := ⟨37, 3, .slice (some ⟨b, 0, none⟩) n c, ys.length, cellsP ys⟩) (by simp) (g := b) rfl
  refine ⟨b, ra, rc, rfl, hs.1, hs.2, rowT_at ho rfl (cellsP_at hy).1, ?_, rowT_at ho rfl (cellsP_at hy).2.2, rowT_frz ho rfl _, ?_, hv⟩
  · rw [← hv]
    exact rowT_at ho rfl (cellsP_at hy).2.1
  · rw [← hv]
    exact hr
theorem info72 : (Tryz.prog.info? 37).map (fun i => (i.zero, i.size, i.bytes)) = some (some (.agg #[.int .i64 0, .slice none 0 0, .int .i64 0]), 3, 40) := by kernel_rfl
theorem eltLoop : Elt 27 37 3 40 := by
  obtain ⟨i0, hi, hz0, hz1, hz2⟩ := info_parts info72
  exact ⟨i0, _, Tryz.underlying27, hi, hz0, hz1, hz2, by simp [Value.cells], by omega, by omega⟩
theorem News.three (w : World) (u v x : Value) (t : TypeId) (nb : Nat) (hnb : w.heap.size = nb) (h1 : u.oneCell' = true) (h2 : v.oneCell' = true) (h3 : x.oneCell' = true) : News (w.alloc (.cells #[u, v, x] t)) (some ⟨nb, 0, none⟩) 1 3 [u, v, x] := by
  subst hnb
  refine ⟨rfl, by simp [h1, h2, h3], .inr ⟨_, rfl, fun j y hj => ?_⟩⟩
  match j, hj with
  | 0, hj => simp at hj; subst hj; rw [addr_add]; simp [go_sem]
  | 1, hj => simp at hj; subst hj; rw [addr_add]; simp [go_sem]
  | 2, hj => simp at hj; subst hj; rw [addr_add]; simp [go_sem]
theorem OwnP.with {w w' : World} {B : Nat} {v : Value} {ys : List PV} (h : OwnP w B v ys) (hb : Below w.heap.size w w') (hB : B ≤ w.heap.size) (y : PV) (hy : w'.ownsRow w.heap.size 3 1 y.v y.s.length (ints (nats y.s))) : Sep w' B ([] ++ ⟨37, 3, v, ys.length, cellsP ys⟩ :: (ys ++ [y]).map rowP) := by
  have := Sep.append h hb hB (m := [rowP y]) (Sep.cons (Sep.nil _ _) hy (by simp))
  simpa using this
theorem OwnP.grown {w : World} {B : Nat} {v : Value} {ys : List PV} {y : PV} (h : Sep w B ([] ++ ⟨37, 3, v, ys.length + 1, cellsP ys ++ [.int .i64 (y.h : Int), y.v, .int .i64 y.up]⟩ :: (ys ++ [y]).map rowP)) : OwnP w B v (ys ++ [y]) := by
  unfold OwnP
  rw [cellsP_snoc, List.length_append]
  exact h
theorem map_rowP_set {ys : List PV} {i : Nat} {y : PV} (k : Int) (h : ys[i]? = some y) : (ys.set i { y with up := k }).map rowP = ys.map rowP := by
  rw [List.map_set]
  refine List.ext_getElem? fun j => ?_
  rw [List.getElem?_set]
  split
  · subst_vars
    split
    · simp [h, rowP]
    · rename_i hn
      simp at hn
      have := (List.getElem?_eq_some_iff.1 h).1
      omega
  · rfl
/-- another place where it lies -/
theorem OwnP.up {w : World} {B b n c : Nat} {ys : List PV} (h : OwnP w B (.slice (some ⟨b, 0, none⟩) n c) ys) (hn : n = ys.length) {i : Nat} {y : PV} (hy : ys[i]? = some y) (k : Int) : OwnP (w.setCell ⟨b, i * 3 + 2, none⟩ (.int .i64 k)) B (.slice (some ⟨b, 0, none⟩) n c) (ys.set i { y with up := k }) := by
  subst hn
  unfold OwnP at h ⊢
  rw [map_rowP_set k hy, ← cellsP_up k hy, List.length_set]
  exact Sep.store [] h (i * 3 + 2) (.int .i64 k)
end
end

section
set_option linter.unusedVariables false

/-- two that dominate each other are one -/
theorem Dom.anti {g : List (List Nat)} {a b : Nat} (h : Dom g a b) (k : Dom g b a) : a = b := by
  refine Classical.byContradiction fun hne => ?_
  have ha0 : a ≠ 0 := fun e => by subst e; exact hne (Dom.zero k).symm
  have hb0 : b ≠ 0 := fun e => by subst e; exact hne (Dom.zero h)
  have key : ∀ x, Come g x → RchW g a x ∧ RchW g b x := by
    intro x hx
    unfold Come at hx
    induction hx with
    | start _ => exact ⟨.start (by omega), .start (by omega)⟩
    | @step i j l hi hl hj _ ih =>
      by_cases ea : j = a
      · subst ea
        exact absurd (RchW.step ih.2 hl hj (by omega)) k.2.2
      · by_cases eb : j = b
        · subst eb
          exact absurd (RchW.step ih.1 hl hj (by omega)) h.2.2
        · exact ⟨.step ih.1 hl hj (by omega), .step ih.2 hl hj (by omega)⟩
  exact (key a h.2.1).1.ne rfl
/-- of two that dominate a node one dominates the other -/
theorem Dom.line {g : List (List Nat)} {a b k : Nat} (h : Dom g a k) (h' : Dom g b k) : Dom g a b ∨ Dom g b a := by
  refine Classical.byContradiction fun hn => ?_
  have h1 : RchW g a b := Classical.byContradiction fun hr => hn (.inl ⟨h'.2.1, h.2.1, hr⟩)
  have h2 : RchW g b a := Classical.byContradiction fun hr => hn (.inr ⟨h.2.1, h'.2.1, hr⟩)
  have hab : a ≠ b := fun e => by subst e; exact h1.ne rfl
  have key : ∀ x, Come g x → RchW g a x ∨ RchW g b x := by
    intro x hx
    unfold Come at hx
    induction hx with
    | start _ =>
      by_cases e : a = 0
      · exact .inr (.start (by omega))
      · exact .inl (.start (by omega))
    | @step i j l hi hl hj _ ih =>
      rcases ih with ih | ih
      · by_cases e : j = a
        · subst e; exact .inr h2
        · exact .inl (.step ih hl hj (by omega))
      · by_cases e : j = b
        · subst e; exact .inl h1
        · exact .inr (.step ih hl hj (by omega))
  rcases key k h.1 with r | r
  · exact h.2.2 r
  · exact h'.2.2 r
theorem Dom.trans {g : List (List Nat)} {a b k : Nat} (h : Dom g a b) (h' : Dom g b k) : Dom g a k := by
  refine ⟨h'.1, h.2.1, fun r => ?_⟩
  have key : ∀ x, RchW g a x → RchW g b x := by
    intro x hx
    induction hx with
    | start h0 =>
      by_cases e : b = 0
      · subst e
        have := Dom.zero h
        subst this
        exact absurd rfl h0
      · exact .start (by omega)
    | @step i j l hi hl hj hne ih =>
      by_cases e : j = b
      · subst e
        exact absurd (RchW.step hi hl hj hne) h.2.2
      · exact .step ih hl hj (by omega)
  exact h'.2.2 (key k r)
theorem backL_dom {g D : List (List Nat)} (hD : IsDoms g D) {u v : Nat} (h : (u, v) ∈ backL g D) : Dom g v u := ((isB_dom hD u v).1 (List.mem_filter.1 h).2).2
/-- the head dominates its loop -/
theorem InB.dom {g D : List (List Nat)} (hD : IsDoms g D) {h x : Nat} (hh : Come g h) (i : InB g D h x) : Dom g h x := by
  induction i with
  | head => exact Dom.self hh
  | start hb => exact backL_dom hD hb
  | back _ hne hl ih => exact ih.up hl (fun e => hne e.symm)
/-- where a loop meets another one whose head its own head dominates, it has that head -/
theorem InB.meets {g D : List (List Nat)} (hD : IsDoms g D) {a b : Nat} (hab : Dom g a b) (hne : a ≠ b) : ∀ {k : Nat}, Come g k → InB g D a k → Dom g b k → InB g D a b := by
  intro k hk
  unfold Come at hk
  induction hk with
  | start _ =>
    intro h1 h2
    rw [Dom.zero h2]
    exact h1
  | @step i j l hi hl hj _ ih =>
    intro h1 h2
    by_cases e : j = b
    · subst e; exact h1
    · have hja : j ≠ a := fun e2 => by subst e2; exact hne (hab.anti h2)
      have hlead : Lead g i j := ⟨hi, l, hl, hj⟩
      exact ih (.back h1 hja hlead) (h2.up hlead (fun e2 => e e2.symm))
theorem InB.within {g D : List (List Nat)} (G : Gr g) (hD : IsDoms g D) {a b : Nat} (hab : Dom g a b) (hne : a ≠ b) (hb : InB g D a b) {z : Nat} (hz : InB g D b z) : InB g D a z := by
  induction hz with
  | head => exact hb
  | start hs => exact .back hb (fun e => hne e.symm) (backL_lead G hs)
  | @back x k hx hxb hl ih =>
    refine .back ih (fun e => ?_) hl
    subst e
    exact hne (hab.anti (hx.dom hD hab.1))
/-- two loops lie one in the other, or apart -/
theorem rings_nest {g D : List (List Nat)} (G : Gr g) (hD : IsDoms g D) {a b k : Nat} (ha : Come g a) (hb : Come g b) (hne : a ≠ b) (h1 : InB g D a k) (h2 : InB g D b k) : (Dom g a b ∧ InB g D a b ∧ ∀ z, InB g D b z → InB g D a z) ∨ (Dom g b a ∧ InB g D b a ∧ ∀ z, InB g D a z → InB g D b z) := by
  have d1 := h1.dom hD ha
  have d2 := h2.dom hD hb
  rcases d1.line d2 with d | d
  · have := h1.meets hD d hne d1.1 d2
    exact .inl ⟨d, InB.meets hD d hne d1.1 h1 d2, fun z hz => InB.within G hD d hne (InB.meets hD d hne d1.1 h1 d2) hz⟩
  · exact .inr ⟨d, InB.meets hD d (fun e => hne e.symm) d2.1 h2 d1, fun z hz => InB.within G hD d (fun e => hne e.symm) (InB.meets hD d (fun e => hne e.symm) d2.1 h2 d1) hz⟩
/-- a loop is entered by its head alone -/
theorem ring_entry {g D : List (List Nat)} {h k n : Nat} (hl : Lead g k n) (hk : ¬ InB g D h k) (hn : InB g D h n) : n = h := Classical.byContradiction fun e => hk (.back hn e hl)
/-- what is told of the least one that fits -/
theorem leastTo_fits {L : List (Nat × List Nat)} {p : Nat × List Nat → Bool} : ∀ {k b : Nat}, leastTo L p k = some b → ∃ x, L[b]? = some x ∧ p x = true
  | 0, b, h => by simp [leastTo] at h
  | k + 1, b, h => by
    unfold leastTo at h
    cases hx : L[k]? with
    | none => rw [hx] at h; exact leastTo_fits h
    | some x =>
      rw [hx] at h
      dsimp only at h
      split at h
      · rename_i hp
        injection h with h
        subst h
        exact ⟨x, hx, (Bool.and_eq_true _ _ ▸ hp).1⟩
      · exact leastTo_fits h
/-- and it is the least -/
theorem leastTo_least {L : List (Nat × List Nat)} {p : Nat × List Nat → Bool} : ∀ {k i : Nat} {x : Nat × List Nat}, i < k → L[i]? = some x → p x = true → ∃ b y, leastTo L p k = some b ∧ L[b]? = some y ∧ y.2.length ≤ x.2.length
  | 0, i, x, h, _, _ => by omega
  | k + 1, i, x, h, hx, hp => by
    unfold leastTo
    cases hk : L[k]? with
    | none =>
      have : i ≠ k := fun e => by subst e; rw [hk] at hx; cases hx
      exact leastTo_least (by omega) hx hp
    | some z =>
      dsimp only
      by_cases hi : i = k
      · subst hi
        rw [hk] at hx
        obtain rfl := Option.some.inj hx
        cases hl : leastTo L p i with
        | none => rw [if_pos (by simp [hp, lessThan])]; exact ⟨i, z, rfl, hk, Nat.le_refl _⟩
        | some b =>
          obtain ⟨y, hy, _⟩ := leastTo_fits hl
          by_cases hlt : z.2.length < y.2.length
          · rw [if_pos (by simp [hp, lessThan, hy, hlt])]; exact ⟨i, z, rfl, hk, Nat.le_refl _⟩
          · rw [if_neg (by simp [hp, lessThan, hy, hlt])]; exact ⟨b, y, rfl, hy, by omega⟩
      · obtain ⟨b, y, h1, h2, h3⟩ := leastTo_least (p := p) (show i < k by omega) hx hp
        rw [h1]
        by_cases hc : (p z && lessThan L z (some b)) = true
        · rw [if_pos hc]
          refine ⟨k, z, rfl, hk, ?_⟩
          have := (Bool.and_eq_true _ _ ▸ hc).2
          simp [lessThan, h2] at this
          omega
        · rw [if_neg hc]
          exact ⟨b, y, rfl, h2, h3⟩
theorem leastTo_none {L : List (Nat × List Nat)} {p : Nat × List Nat → Bool} {k : Nat} (h : leastTo L p k = none) {i : Nat} {x : Nat × List Nat} (hi : i < k) (hx : L[i]? = some x) : p x = false := by
  cases hp : p x with
  | false => rfl
  | true =>
    obtain ⟨b, y, h1, _⟩ := leastTo_least hi hx hp
    rw [h] at h1; cases h1
end

section
set_option linter.unusedVariables false

theorem rising_sub_len : ∀ {L L' : List Nat}, L.Nodup → L'.Nodup → (∀ x ∈ L, x ∈ L') → L.length ≤ L'.length
  | [], L', _, _, _ => by simp
  | x :: r, L', h, h', hs => by
    have hx := hs x (by simp)
    have h1 := List.nodup_cons.1 h
    have := rising_sub_len (L := r) (L' := L'.erase x) h1.2 (h'.erase x) (fun y hy => (h'.mem_erase_iff).2 ⟨fun e => h1.1 (e ▸ hy), hs y (by simp [hy])⟩)
    rw [List.length_erase_of_mem hx] at this
    have := List.length_pos_of_mem hx
    simp
    omega
theorem rising_sub_lt {L L' : List Nat} (h : L.Nodup) (h' : L'.Nodup) (hs : ∀ x ∈ L, x ∈ L') {y : Nat} (hy : y ∈ L') (hn : y ∉ L) : L.length < L'.length := by
  have := rising_sub_len h (h'.erase y) (fun x hx => (h'.mem_erase_iff).2 ⟨fun e => hn (e ▸ hx), hs x hx⟩)
  rw [List.length_erase_of_mem hy] at this
  have := List.length_pos_of_mem hy
  omega
/-- one loop has another one: it is greater -/
theorem ring_greater {g D : List (List Nat)} (G : Gr g) (hD : IsDoms g D) {x y : Nat × List Nat} (hx : isHead g D x.1 = true ∧ IsBody g D x.1 x.2) (hy : isHead g D y.1 = true ∧ IsBody g D y.1 y.2) (hne : y.1 ≠ x.1) (hs : ∀ z ∈ x.2, z ∈ y.2) : x.2.length < y.2.length ∧ x.1 ∈ y.2 := by
  have h1 : x.1 ∈ x.2 := (hx.2.2 _).2 .head
  have h2 : y.1 ∈ y.2 := (hy.2.2 _).2 .head
  have h3 := hs _ h1
  refine ⟨rising_sub_lt (rising_nodup hx.2.1) (rising_nodup hy.2.1) hs h2 (fun h => ?_), h3⟩
  exact hne ((((hy.2.2 _).1 h3).dom hD (isHead.come G hy.1)).anti (((hx.2.2 _).1 h).dom hD (isHead.come G hx.1)))
theorem liesIn_iff {L : List (Nat × List Nat)} {i : Nat} {x y : Nat × List Nat} (hx : L[i]? = some x) : liesIn L i y = true ↔ (y.1 ≠ x.1 ∧ ∀ z ∈ x.2, z ∈ y.2) := by
  unfold liesIn allIn
  rw [hx]
  simp only [Bool.and_eq_true, decide_eq_true_iff, List.all_eq_true]
/-- what is told of where a loop lies -/
theorem up_is {g D : List (List Nat)} (G : Gr g) (hD : IsDoms g D) {L : List (Nat × List Nat)} (hL : Rings g D g.length L) {i b : Nat} {x : Nat × List Nat} (hx : L[i]? = some x) (hb : leastTo L (liesIn L i) L.length = some b) : ∃ y, L[b]? = some y ∧ y.1 ≠ x.1 ∧ (∀ z ∈ x.2, z ∈ y.2) ∧ x.2.length < y.2.length ∧ x.1 ∈ y.2 := by
  obtain ⟨y, hy, hp⟩ := leastTo_fits hb
  obtain ⟨h1, h2⟩ := (liesIn_iff hx).1 hp
  have hmx := hL.mem (List.mem_of_getElem? hx)
  have hmy := hL.mem (List.mem_of_getElem? hy)
  have := ring_greater G hD hmx.2 hmy.2 h1 h2
  exact ⟨y, hy, h1, h2, this.1, this.2⟩
/-- two loops of one node: the one that is no less has the other -/
theorem chain_le {g D : List (List Nat)} (G : Gr g) (hD : IsDoms g D) {x y : Nat × List Nat} {k : Nat} (hx : isHead g D x.1 = true ∧ IsBody g D x.1 x.2) (hy : isHead g D y.1 = true ∧ IsBody g D y.1 y.2) (hkx : k ∈ x.2) (hky : k ∈ y.2) (hne : y.1 ≠ x.1) (hle : x.2.length ≤ y.2.length) : ∀ z ∈ x.2, z ∈ y.2 := by
  rcases rings_nest G hD (isHead.come G hx.1) (isHead.come G hy.1) (fun e => hne e.symm) ((hx.2.2 k).1 hkx) ((hy.2.2 k).1 hky) with ⟨_, _, h⟩ | ⟨_, _, h⟩
  · have := ring_greater G hD hy hx (fun e => hne e.symm) (fun z hz => (hx.2.2 z).2 (h z ((hy.2.2 z).1 hz)))
    omega
  · exact fun z hz => (hy.2.2 z).2 (h z ((hx.2.2 z).1 hz))
/-- how many loops a node is in that are at least so great -/
def cntFrom (L : List (Nat × List Nat)) (k c : Nat) : Nat := L.countP fun l => decide (k ∈ l.2) && decide (c ≤ l.2.length)
theorem Rings.nodup {g D : List (List Nat)} {m : Nat} {L : List (Nat × List Nat)} (h : Rings g D m L) : L.Nodup := by
  have := rising_nodup h.rising
  rw [List.Nodup, List.pairwise_map] at this
  exact this.imp (fun {a b} hab e => hab (by rw [e]))
theorem countP_or {α : Type} [DecidableEq α] (p q : α → Bool) (x : α) : ∀ {L : List α}, L.Nodup → x ∈ L → (∀ l ∈ L, p l = true ↔ (l = x ∨ q l = true)) → q x = false → L.countP p = L.countP q + 1
  | [], _, hx, _, _ => by simp at hx
  | y :: r, hn, hx, hp, hq => by
    have h1 := List.nodup_cons.1 hn
    by_cases e : y = x
    · subst e
      have e1 : p y = true := (hp y (by simp)).2 (.inl rfl)
      have e2 : r.countP p = r.countP q := List.countP_congr fun l hl => by
        rw [hp l (by simp [hl])]
        exact ⟨fun h => h.resolve_left (fun e => h1.1 (e ▸ hl)), .inr⟩
      rw [List.countP_cons_of_pos e1, List.countP_cons_of_neg (by simp [hq]), e2]
    · have hx' : x ∈ r := by
        rcases List.mem_cons.1 hx with e2 | e2
        · exact absurd e2.symm e
        · exact e2
      have ih := countP_or p q x h1.2 hx' (fun l hl => hp l (by simp [hl])) hq
      have e1 : p y = q y := by
        have := hp y (by simp)
        cases h2 : q y
        · cases h3 : p y
          · rfl
          · rcases this.1 h3 with h4 | h4
            · exact absurd h4 e
            · rw [h2] at h4; cases h4
        · exact this.2 (.inr h2)
      rw [List.countP_cons, List.countP_cons, ih, e1]
      omega
/-- along where a loop lies one less is left -/
theorem cnt_up {g D : List (List Nat)} (G : Gr g) (hD : IsDoms g D) {L : List (Nat × List Nat)} (hL : Rings g D g.length L) {i k : Nat} {x : Nat × List Nat} (hx : L[i]? = some x) (hk : k ∈ x.2) :
    (leastTo L (liesIn L i) L.length = none ∧ cntFrom L k x.2.length = 1) ∨ (∃ b y, leastTo L (liesIn L i) L.length = some b ∧ L[b]? = some y ∧ k ∈ y.2 ∧ cntFrom L k x.2.length = cntFrom L k y.2.length + 1) := by
  have hxm := List.mem_of_getElem? hx
  have hmx := hL.mem hxm
  have key : ∀ l ∈ L, (k ∈ l.2 ∧ x.2.length ≤ l.2.length) ↔ (l = x ∨ (l.1 ≠ x.1 ∧ ∀ z ∈ x.2, z ∈ l.2)) := fun l hl => by
    have hml := hL.mem hl
    constructor
    · rintro ⟨h1, h2⟩
      by_cases e : l.1 = x.1
      · left
        have : l.2 = x.2 := by
          have hb := hml.2.2
          rw [e] at hb
          exact hb.unique hmx.2.2
        exact Prod.ext e this
      · exact .inr ⟨e, chain_le G hD hmx.2 hml.2 hk h1 e h2⟩
    · rintro (rfl | ⟨h1, h2⟩)
      · exact ⟨hk, Nat.le_refl _⟩
      · exact ⟨h2 k hk, Nat.le_of_lt (ring_greater G hD hmx.2 hml.2 h1 h2).1⟩
  cases hu : leastTo L (liesIn L i) L.length with
  | none =>
    refine .inl ⟨rfl, ?_⟩
    unfold cntFrom
    rw [countP_or (fun l => decide (k ∈ l.2) && decide (x.2.length ≤ l.2.length)) (fun _ => false) x hL.nodup hxm (fun l hl => ?_) rfl]
    · simp
    · simp only [Bool.and_eq_true, decide_eq_true_iff, Bool.false_eq_true, or_false]
      rw [key l hl]
      refine ⟨fun h => h.resolve_right (fun h => ?_), .inl⟩
      obtain ⟨j, hj⟩ := List.mem_iff_getElem?.1 hl
      have := leastTo_none hu (List.getElem?_eq_some_iff.1 hj).1 hj
      rw [(liesIn_iff hx).2 h] at this
      cases this
  | some b =>
    obtain ⟨y, hy, h1, h2, h3, h4⟩ := up_is G hD hL hx hu
    refine .inr ⟨b, y, rfl, hy, h2 k hk, ?_⟩
    unfold cntFrom
    refine countP_or _ (fun l => decide (k ∈ l.2) && decide (y.2.length ≤ l.2.length)) x hL.nodup hxm (fun l hl => ?_) ?_
    · simp only [Bool.and_eq_true, decide_eq_true_iff]
      rw [key l hl]
      constructor
      · rintro (h | h)
        · exact .inl h
        · refine .inr ⟨h.2 k hk, ?_⟩
          obtain ⟨j, hj⟩ := List.mem_iff_getElem?.1 hl
          obtain ⟨b', y', e1, e2, e3⟩ := leastTo_least (List.getElem?_eq_some_iff.1 hj).1 hj ((liesIn_iff hx).2 h)
          rw [hu] at e1
          obtain rfl := Option.some.inj e1
          rw [hy] at e2
          obtain rfl := Option.some.inj e2
          exact e3
      · rintro (h | h)
        · exact .inl h
        · exact (key l hl).1 ⟨h.1, by omega⟩
    · simp only [Bool.and_eq_false_iff, decide_eq_false_iff_not]
      right
      omega
/-- the least loop of a node: all its loops are no less -/
theorem cnt_all {L : List (Nat × List Nat)} {k b : Nat} {y : Nat × List Nat} (hb : leastTo L (fun l => decide (k ∈ l.2)) L.length = some b) (hy : L[b]? = some y) : cntFrom L k y.2.length = L.countP fun l => decide (k ∈ l.2) := by
  unfold cntFrom
  refine List.countP_congr fun l hl => ?_
  simp only [Bool.and_eq_true, decide_eq_true_iff]
  refine ⟨fun h => h.1, fun h => ⟨h, ?_⟩⟩
  obtain ⟨j, hj⟩ := List.mem_iff_getElem?.1 hl
  obtain ⟨b', y', e1, e2, e3⟩ := leastTo_least (p := fun l : Nat × List Nat => decide (k ∈ l.2)) (List.getElem?_eq_some_iff.1 hj).1 hj (decide_eq_true h)
  rw [hb] at e1
  obtain rfl := Option.some.inj e1
  rw [hy] at e2
  obtain rfl := Option.some.inj e2
  exact e3
end
end Go.Proofs.YtiadmmnnbnamjaaGreat
