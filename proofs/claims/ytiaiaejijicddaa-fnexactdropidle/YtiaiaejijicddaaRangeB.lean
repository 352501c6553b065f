/- Ranges over iterators that hand out what comes next and nothing else. -/
import Derived.Test.YtiaiaejijicddaaK2
import Derived.ControlIn
import Derived.RangeFuncNested
import Derived.RangeFuncBound
import Derived.RangeFuncCalls
import Derived.RangeFuncLeaves
import Derived.RangeFuncBox
import Derived.OwnWalkIn
import Derived.TacticsInMore
import Derived.LoopNIn
import Derived.LoopIn
namespace Go.Proofs.Ytiaiaejijicddaa
open Go Go.RowKit Go.Shelf
attribute [local go_sem] Oper.semAt_some
set_option linter.unusedVariables false
set_option linter.unusedSimpArgs false
set_option maxRecDepth 100000

/-- what a round leaves alone: the blocks that are named, and a span -/
def Stay (K : Nat → Prop) (A T : Nat) (W W' : World) : Prop := Below 0 W W' ∧ ∀ k, (K k ∨ (A ≤ k ∧ k < T)) → W'.heap[k]? = W.heap[k]?
theorem Stay.trans {K : Nat → Prop} {A T : Nat} {X Y Z : World} (h : Stay K A T X Y) (k : Stay K A T Y Z) : Stay K A T X Z := ⟨h.1.trans k.1, fun i hi => (k.2 i hi).trans (h.2 i hi)⟩
theorem Stay.less {K : Nat → Prop} {A B T : Nat} {X Y : World} (h : Stay K A T X Y) (hB : A ≤ B) : Stay K B T X Y := ⟨h.1, fun i hi => h.2 i (hi.imp id (fun hi => ⟨by omega, hi.2⟩))⟩
theorem Stay.put {K : Nat → Prop} {A T l : Nat} {W : World} {o : Obj} (o' : Obj) (hl : W.heap[l]? = some o) (h0 : ¬ K l) (hA : ¬ (A ≤ l ∧ l < T)) : Stay K A T W (W.putObj l o') :=
  ⟨(Below.refl 0 W).grown (grownBy_putObj' W l o') (by omega) (fun k e => by omega), fun i hi => World.putObj_heap_other (by rintro rfl; rcases hi with hi | hi; exact h0 hi; exact hA hi)⟩
theorem Stay.below {K : Nat → Prop} {A T : Nat} {W W' : World} (h : Below W.heap.size W W') (hK : ∀ k, K k → k < W.heap.size) (hT : T ≤ W.heap.size) : Stay K A T W W' := ⟨h.mono (by omega), fun k hk => h.block k (by rcases hk with hk | hk; exact hK k hk; omega)⟩
theorem keepsFrom_put {B l : Nat} {W : World} (o' : Obj) (h : l < B) : KeepsFrom B W (W.putObj l o') := ⟨by simp [World.putObj], fun k o hB hk _ => by rw [World.putObj_heap_other (by omega)]; exact hk⟩
/-- what an iterator promises to a loop: it hands out what comes next, and nothing else -/
def SeqOwn2 {α : Type} (F : Fence) (n : Nat) (P : Program) (g : Nat) (lb : Array Value) (encs : α → Array Value) (K : Nat → Prop) (S Sp : List α → Prop) (N : Nat) (w : World) : Prop :=
  ∀ (l : Nat) (J : Nat → List α → World → Prop) (Jx : List α → World → Prop) (W : World), Below w.heap.size w W →
    (∀ W', W.grownBy W' none → J W'.heap.size [] W') → (∀ T, OwnFrom W.heap.size (J T)) → OwnFrom W.heap.size Jx →
    (∀ T pre x W1, W.heap.size ≤ T → J T pre W1 → pre.length < N → Sp (pre ++ [x]) → YieldAt F (n - 1) P l (encs x) W1 fun e W' =>
      KeepsFrom W.heap.size W1 W' ∧ ((e = .returned (.bool true) ∧ J T (pre ++ [x]) W' ∧ Stay K W.heap.size T W1 W') ∨ (e = .returned (.bool false) ∧ Jx (pre ++ [x]) W'))) →
    CallsIn F n P g (#[.func (.yield l) #[] #[]] ++ lb) W fun e W' => (∃ v, e = .returned v) ∧ ((∃ xs T, S xs ∧ J T xs W') ∨ (∃ pre, Sp pre ∧ Jx pre W'))

theorem range_own2 {F : Fence} {n : Nat} {P : Program} {α : Type} {g : Operand} {ps : Array Tmp} {assign body : Code} {Q : Exit → Act → World → Prop} {a : Act} {w : World}
    (hro : F.round = none) (h1 : 1 ≤ n) {gf : Nat} {lb : Array Value} (hg : a.eval g = .func (.func gf) #[] lb) (hFg : F.fn gf) (eg : ∀ args w, (callFunc gf args).run P w = .ok (.enter gf args) w)
    {encs : α → Array Value} {Kb : Nat → Prop} {S Sp : List α → Prop} {N : Nat} {w0 : World} (hseq : SeqOwn2 F (n - 1) P gf lb encs Kb S Sp N w0) (hKb : ∀ k, Kb k → k < w.heap.size) (hb0 : Below w0.heap.size w0 w) (hps : ∀ x, (encs x).size = ps.size)
    (I : Nat → List α → World → Prop) (Ix : Code → List α → World → Prop) (hI : ∀ T, OwnFrom w.heap.size (I T)) (hIx : ∀ c, OwnFrom w.heap.size (Ix c)) (h0 : ∀ W', w.grownBy W' none → I W'.heap.size [] W') (a₁ : α → Act)
    (hassign : ∀ (l : Nat) (x : α) (W : World) (K : Act → World → Prop), K (a₁ x) W →
      assign.wpIn (F.inRound l) (n - 1 - 1) P (Exit.then K (fun _ _ _ => False)) { tmps := (ps.zip (encs x)).foldl (fun t (p, v) => t.setIfInBounds p v) a.tmps, defers := [] } W)
    (hbody : ∀ (l T : Nat) (pre : List α) (x : α) (W : World), w.heap.size + 2 ≤ T → I T pre W → pre.length < N → Sp (pre ++ [x]) → body.wpIn (F.inRound l) (n - 1 - 1) P (ownPostK (Stay Kb w.heap.size T) (I T) Ix (pre ++ [x]) W) (a₁ x) W)
    (hdone : ∀ (D T : Nat) (xs : List α) (W : World), w.heap.size ≤ D → S xs → I T xs W → W.heap[D]? = some (.deferred (some [])) → Q .normal { a with defers := { target := .collected D, args := #[] } :: a.defers } W)
    (hstop : ∀ (D : Nat) (c : Code) (pre : List α) (W : World), w.heap.size ≤ D → Sp pre → Ix c pre W → W.heap[D]? = some (.deferred (some [])) → c.wpIn F n P Q { a with defers := { target := .collected D, args := #[] } :: a.defers } W) :
    (Code.rangeFunc g ps assign body).wpIn F n P Q a w := by
  refine wpIn_rangeFunc fun fn hfn => ?_
  rw [hro]
  obtain ⟨mk, hmk⟩ : ∃ mk : LoopState → Option Code → Loop, mk = fun st pe => { state := st, pending := pe, fn, tmps := a.tmps, params := ps, assign, body, defers := w.heap.size } := ⟨_, rfl⟩
  obtain ⟨X, hX⟩ : ∃ X, (w.alloc (.deferred (some []))).alloc (.loop (mk .ready none)) = X := ⟨_, rfl⟩
  have zX : X.heap.size = w.heap.size + 2 := by rw [← hX]; simp
  have lX : X.heap[w.heap.size + 1]? = some (.loop (mk .ready none)) := by
    rw [← hX]
    have := World.alloc_heap_new (w.alloc (.deferred (some []))) (.loop (mk .ready none))
    rwa [World.size_alloc] at this
  have dX : X.heap[w.heap.size]? = some (.deferred (some [])) := by rw [← hX]; exact (Below.heap_alloc _ _ _ (by simp)).trans (World.alloc_heap_new w _)
  have gX : w.grownBy X none := by rw [← hX]; exact (World.grownBy_alloc w _ none).trans (World.grownBy_alloc _ _ none)
  have bX : Below w0.heap.size w0 X := hb0.trans (((Below.refl _ w).grown gX (Nat.le_refl _) (fun k e => by cases e)).mono hb0.size)
  -- what stays of the loop's own two blocks when others turn
  have two : ∀ {o : Obj} {k : Nat} {A B : World} {row : Option Nat}, k < X.heap.size → A.heap[k]? = some o → A.grownBy B row → (∀ r, row = some r → X.heap.size ≤ r ∧ ∃ o : Obj, A.heap[r]? = some o ∧ o.isCells = false) → B.heap[k]? = some o := by
    intro o k A B row hk ho hgr hr
    exact (hgr.block k (Array.getElem?_eq_some_iff.1 ho).1 (fun e => by have := (hr k e.symm).1; omega)).trans ho
  have far : ∀ {A : World} {row : Option Nat}, (∀ r, row = some r → X.heap.size ≤ r ∧ ∃ o : Obj, A.heap[r]? = some o ∧ o.isCells = false) → (∀ r, row = some r → w.heap.size ≤ r ∧ ∃ o : Obj, A.heap[r]? = some o ∧ o.isCells = false) :=
    fun hr r e => ⟨by have := (hr r e).1; omega, (hr r e).2⟩
  refine ⟨w.heap.size + 1, [{ target := .collected w.heap.size, args := #[] }], X, { target := .fn (.func gf) lb, args := #[.func (.yield (w.heap.size + 1)) #[] #[]] }, X, gf, #[.func (.yield (w.heap.size + 1)) #[] #[]] ++ lb, X, ?_, ?_, ?_, ?_, fun _ => h1, ?_⟩
  · rw [← hX, hmk]; exact run_enterLoop_outer _ _ _ _ _
  · simp only [resolve, hg]
    simp [go_sem]
  · intro f' hf'; simp [Target.leads] at hf'; subst hf'; exact hFg
  · simp [invoke, go_sem, eg]
  refine (hseq (w.heap.size + 1)
    (fun T pre W => I T pre W ∧ W.heap[w.heap.size + 1]? = some (.loop (mk .ready none)) ∧ W.heap[w.heap.size]? = some (.deferred (some [])))
    (fun pre W => ∃ c, Ix c pre W ∧ W.heap[w.heap.size + 1]? = some (.loop (mk .done (some c))) ∧ W.heap[w.heap.size]? = some (.deferred (some [])))
    X bX ?prep ?own ?ownx ?round).mono ?_
  case prep =>
    intro W' hgr
    refine ⟨h0 W' (gX.trans hgr), ?_, ?_⟩
    · exact (hgr.block _ (by omega) (by simp)).trans lX
    · exact (hgr.block _ (by omega) (by simp)).trans dX
  case own => exact fun T s A B row hs hgr hr => ⟨hI T s A B row hs.1 hgr (far hr), two (by omega) hs.2.1 hgr hr, two (by omega) hs.2.2 hgr hr⟩
  case ownx =>
    rintro s A B row ⟨c, hc, hl, hk⟩ hgr hr
    exact ⟨c, hIx c s A B row hc hgr (far hr), two (by omega) hl hgr hr, two (by omega) hk hgr hr⟩
  case round =>
    rintro T pre x W hT ⟨hi, hl, hk⟩ hlen hsp
    have hlt : w.heap.size + 1 < W.heap.size := (Array.getElem?_eq_some_iff.1 hl).1
    have hy := run_yield (P := P) (args := encs x) hl (by rw [hmk]; exact hps x)
    rw [hmk] at hy
    refine ⟨fn, _, assign, body, hy, roundIn_of_wpIn hfn (hassign _ x W _ ⟨_, run_beginRound hl (by rw [hmk]), ?_⟩)⟩
    obtain ⟨V, hV⟩ : ∃ V, W.putObj (w.heap.size + 1) (.loop { mk .ready none with state := .busy }) = V := ⟨_, rfl⟩
    have lV : V.heap[w.heap.size + 1]? = some (.loop { mk .ready none with state := .busy }) := by rw [← hV]; exact World.putObj_heap_same hlt
    have dV : V.heap[w.heap.size]? = some (.deferred (some [])) := by rw [← hV]; exact (World.putObj_heap_other (by omega)).trans hk
    have kV : KeepsFrom X.heap.size W V := by rw [← hV]; exact keepsFrom_put _ (by omega)
    have sV : Stay Kb X.heap.size T W V := by rw [← hV]; exact Stay.put _ hl (fun h => by have := hKb _ h; omega) (by omega)
    have iV : I T pre V := by rw [← hV]; exact (hI T).putObj _ hi (by omega) hl rfl
    rw [hV]
    refine wpIn_mono (hbody _ T pre x V (by omega) iV hlen hsp) ?_
    have fin : ∀ (jump : Option Code) (Z : World), KeepsOthers V Z → ∃ Y, (Instr.endRound (w.heap.size + 1) jump).run P Z = .ok (.bool jump.isNone) Y ∧ Y = Z.putObj (w.heap.size + 1) (.loop (mk (if jump.isNone then .ready else .done) jump)) ∧
        Z.heap[w.heap.size + 1]? = some (.loop { mk .ready none with state := .busy }) ∧ Y.heap[w.heap.size + 1]? = some (.loop (mk (if jump.isNone then .ready else .done) jump)) ∧ Y.heap[w.heap.size]? = some (.deferred (some [])) ∧ KeepsFrom X.heap.size W Y := by
      intro jump Z hZ
      have lZ := hZ.same _ _ lV rfl
      have := run_endRound (P := P) jump lZ
      refine ⟨_, by rw [hmk] at this ⊢; exact this, rfl, lZ, World.putObj_heap_same (Array.getElem?_eq_some_iff.1 lZ).1, (World.putObj_heap_other (by omega)).trans (hZ.same _ _ dV rfl), (kV.trans (hZ.from _)).trans (keepsFrom_put _ (by omega))⟩
    rintro e a3 Z hp
    cases e with
    | normal =>
      obtain ⟨hZ, hst, hi3⟩ := hp
      obtain ⟨Y, hr, hY, lZ, lY, dY, kY⟩ := fin none Z hZ
      refine ⟨_, Y, hr, kY, .inl ⟨rfl, ⟨?_, lY, dY⟩, ?_⟩⟩
      · rw [hY]; exact (hI T).putObj _ hi3 (by omega) lZ rfl
      · rw [hY]; exact (sV.trans (hst.less (by omega))).trans (Stay.put _ lZ (fun h => by have := hKb _ h; omega) (by omega))
    | ret =>
      obtain ⟨hZ, hi3⟩ := hp
      obtain ⟨Y, hr, hY, lZ, lY, dY, kY⟩ := fin (some .ret) Z hZ
      exact ⟨_, Y, hr, kY, .inr ⟨rfl, .ret, by rw [hY]; exact (hIx _).putObj _ hi3 (by omega) lZ rfl, lY, dY⟩⟩
    | exit id =>
      obtain ⟨hZ, hi3⟩ := hp
      obtain ⟨Y, hr, hY, lZ, lY, dY, kY⟩ := fin (some (.exit id)) Z hZ
      exact ⟨_, Y, hr, kY, .inr ⟨rfl, .exit id, by rw [hY]; exact (hIx _).putObj _ hi3 (by omega) lZ rfl, lY, dY⟩⟩
    | goto t =>
      obtain ⟨hZ, hi3⟩ := hp
      obtain ⟨Y, hr, hY, lZ, lY, dY, kY⟩ := fin (some (.goto t)) Z hZ
      exact ⟨_, Y, hr, kY, .inr ⟨rfl, .goto t, by rw [hY]; exact (hIx _).putObj _ hi3 (by omega) lZ rfl, lY, dY⟩⟩
    | panic ch => exact hp.elim
    | outgrown => exact hp.elim
  · rintro e Z ⟨⟨v, rfl⟩, (⟨xs, T, hS, hi, hl, hk⟩ | ⟨pre, hSp, c, hi, hl, hk⟩)⟩
    · exact ⟨none, _, by have := run_endLoop (P := P) hl (by rw [hmk]; simp); rw [hmk] at this; exact this, hdone _ T xs _ (Nat.le_refl _) hS ((hI T).putObj _ hi (by omega) hl rfl) ((World.putObj_heap_other (by omega)).trans hk)⟩
    · exact ⟨some c, _, by have := run_endLoop (P := P) hl (by rw [hmk]; simp); rw [hmk] at this; exact this, hstop _ c pre _ (Nat.le_refl _) hSp ((hIx c).putObj _ hi (by omega) hl rfl) ((World.putObj_heap_other (by omega)).trans hk)⟩
end Go.Proofs.Ytiaiaejijicddaa
