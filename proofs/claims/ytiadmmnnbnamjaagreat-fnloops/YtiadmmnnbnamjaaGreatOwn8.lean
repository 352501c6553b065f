/- Iterators that hand out what comes next and nothing else. -/
import Derived.Test.YtiadmmnnbnamjaaGreatQ3
namespace Go.Proofs.YtiadmmnnbnamjaaGreat
open Go Go.RowKit Go.Shelf
attribute [local go_sem] Oper.semAt_some
set_option linter.unusedVariables false
set_option linter.unusedSimpArgs false
set_option maxRecDepth 100000

/-- what an iterator promises to a loop: it hands out what comes next, and nothing else -/
def SeqOwn2 {α : Type} (F : Fence) (n : Nat) (P : Program) (g : Nat) (lb : Array Value) (encs : α → Array Value) (K : Nat → Prop) (S Sp : List α → Prop) (N : Nat) (w : World) : Prop :=
  ∀ (l : Nat) (J : Nat → List α → World → Prop) (Jx : List α → World → Prop) (W : World), Below w.heap.size w W →
    (∀ W', W.grownBy W' none → J W'.heap.size [] W') → (∀ T, OwnFrom W.heap.size (J T)) → OwnFrom W.heap.size Jx →
    (∀ T pre x W1, W.heap.size ≤ T → J T pre W1 → pre.length < N → Sp (pre ++ [x]) → YieldAt F (n - 1) P l (encs x) W1 fun e W' =>
      KeepsFrom W.heap.size W1 W' ∧ ((e = .returned (.bool true) ∧ J T (pre ++ [x]) W' ∧ Stay K W.heap.size T W1 W') ∨ (e = .returned (.bool false) ∧ Jx (pre ++ [x]) W'))) →
    CallsIn F n P g (#[.func (.yield l) #[] #[]] ++ lb) W fun e W' => (∃ v, e = .returned v) ∧ ((∃ xs T, S xs ∧ J T xs W') ∨ (∃ pre, Sp pre ∧ Jx pre W'))

theorem range_own2 {F : Fence} {n : Nat} {P : Program} {α : Type} {g : Operand} {ps : Array Tmp} {assign body : Code} {Q : Exit → Act → World → Prop} {a : Act} {w : World}
    (hro : F.round = none) (h1 : 1 ≤ n) {gf : Nat} {lb : Array Value} (hg : a.eval g = .func (.func gf) #[] lb) (hFg : F.fn gf) (eg : ∀ args w, (callFunc gf args).run P w = .ok (.enter gf args) w)
    {encs : α → Array Value} {Kb : Nat → Prop} {S Sp : List α → Prop} {N : Nat} {w0 : World} (hseq : SeqOwn2 F (n - 1) P gf lb encs Kb S Sp N w0) (hKb : ∀ k, Kb k → k < w.heap.size) (hb0 : Below w0.heap.size w0 w) (hps : ∀ x, (encs x).size = ps.size)
    (I : Nat → List α → World → Prop) (Ix : Code → List α → World → Prop) (hI : ∀ T, OwnFrom w.heap.size (I T)) (hIx : ∀ c, OwnFrom w.heap.size (Ix c)) (h0 : ∀ W', w.grownBy W' none → I W'.heap.size [] W') (a₁ : α → Act)
    (hassign : ∀ (l : Nat) (x : α) (W : World) (K : Act → World → Prop), K (a₁ x) W →
      assign.wpIn (F.inRound l) (n - 1 - 1) P (Exit.then K (fun _ _ _ => False)) { tmps := (ps.zip (encs x)).foldl (fun t (p, v) => t.setIfInBounds p v) a.tmps, defers := [] } W)
    (hbody : ∀ (l T : Nat) (pre : List α) (x : α) (W : World), w.heap.size + 2 ≤ T → I T pre W → pre.length < N → Sp (pre ++ [x]) → body.wpIn (F.inRound l) (n - 1 - 1) P (ownPostK (Stay Kb w.heap.size T) (I T) Ix (pre ++ [x]) W) (a₁ x) W)
    (hdone : ∀ (D T : Nat) (xs : List α) (W : World), w.heap.size ≤ D → S xs → I T xs W → W.heap[D]? = some (.deferred (some [])) → Q .normal { a with defers := { target := .collected D, args := #[] } :: a.defers } W)
    (hstop : ∀ (D : Nat) (c : Code) (pre : List α) (W : World), w.heap.size ≤ D → Sp pre → Ix c pre W → W.heap[D]? = some (.deferred (some [])) → c.wpIn F n P Q { a with defers := { target := .collected D, args := #[] } :: a.defers } W) :
    (Code.rangeFunc g ps assign body).wpIn F n P Q a w := by
  refine wpIn_rangeFunc fun fn hfn => ?_
  rw [hro]
  obtain ⟨mk, hmk⟩ : ∃ mk : LoopState → Option Code → Loop, mk = fun st pe => { state := st, pending := pe, fn, tmps := a.tmps, params := ps, assign, body, defers := w.heap.size } := ⟨_, rfl⟩
  obtain ⟨X, hX⟩ : ∃ X, (w.alloc (.deferred (some []))).alloc (.loop (mk .ready none)) = X := ⟨_, rfl⟩
  have zX : X.heap.size = w.heap.size + 2 := by rw [← hX]; simp
  have lX : X.heap[w.heap.size + 1]? = some (.loop (mk .ready none)) := by
    rw [← hX]
    have := World.alloc_heap_new (w.alloc (.deferred (some []))) (.loop (mk .ready none))
    rwa [World.size_alloc] at this
  have dX : X.heap[w.heap.size]? = some (.deferred (some [])) := by rw [← hX]; exact (Below.heap_alloc _ _ _ (by simp)).trans (World.alloc_heap_new w _)
  have gX : w.grownBy X none := by rw [← hX]; exact (World.grownBy_alloc w _ none).trans (World.grownBy_alloc _ _ none)
  have bX : Below w0.heap.size w0 X := hb0.trans (((Below.refl _ w).grown gX (Nat.le_refl _) (fun k e => by cases e)).mono hb0.size)
  -- what stays of the loop's own two blocks when others turn
  have two : ∀ {o : Obj} {k : Nat} {A B : World} {row : Option Nat}, k < X.heap.size → A.heap[k]? = some o → A.grownBy B row → (∀ r, row = some r → X.heap.size ≤ r ∧ ∃ o : Obj, A.heap[r]? = some o ∧ o.isCells = false) → B.heap[k]? = some o := by
    intro o k A B row hk ho hgr hr
    exact (hgr.block k (Array.getElem?_eq_some_iff.1 ho).1 (fun e => by have := (hr k e.symm).1; omega)).trans ho
  have far : ∀ {A : World} {row : Option Nat}, (∀ r, row = some r → X.heap.size ≤ r ∧ ∃ o : Obj, A.heap[r]? = some o ∧ o.isCells = false) → (∀ r, row = some r → w.heap.size ≤ r ∧ ∃ o : Obj, A.heap[r]? = some o ∧ o.isCells = false) :=
    fun hr r e => ⟨by have := (hr r e).1; omega, (hr r e).2⟩
  refine ⟨w.heap.size + 1, [{ target := .collected w.heap.size, args := #[] }], X, { target := .fn (.func gf) lb, args := #[.func (.yield (w.heap.size + 1)) #[] #[]] }, X, gf, #[.func (.yield (w.heap.size + 1)) #[] #[]] ++ lb, X, ?_, ?_, ?_, ?_, fun _ => h1, ?_⟩
  · rw [← hX, hmk]; exact run_enterLoop_outer _ _ _ _ _
  · simp only [resolve, hg]
    simp [go_sem]
  · intro f' hf'; simp [Target.leads] at hf'; subst hf'; exact hFg
  · simp [invoke, go_sem, eg]
  refine (hseq (w.heap.size + 1)
    (fun T pre W => I T pre W ∧ W.heap[w.heap.size + 1]? = some (.loop (mk .ready none)) ∧ W.heap[w.heap.size]? = some (.deferred (some [])))
    (fun pre W => ∃ c, Ix c pre W ∧ W.heap[w.heap.size + 1]? = some (.loop (mk .done (some c))) ∧ W.heap[w.heap.size]? = some (.deferred (some [])))
    X bX ?prep ?own ?ownx ?round).mono ?_
  case prep =>
    intro W' hgr
    refine ⟨h0 W' (gX.trans hgr), ?_, ?_⟩
    · exact (hgr.block _ (by omega) (by simp)).trans lX
    · exact (hgr.block _ (by omega) (by simp)).trans dX
  case own => exact fun T s A B row hs hgr hr => ⟨hI T s A B row hs.1 hgr (far hr), two (by omega) hs.2.1 hgr hr, two (by omega) hs.2.2 hgr hr⟩
  case ownx =>
    rintro s A B row ⟨c, hc, hl, hk⟩ hgr hr
    exact ⟨c, hIx c s A B row hc hgr (far hr), two (by omega) hl hgr hr, two (by omega) hk hgr hr⟩
  case round =>
    rintro T pre x W hT ⟨hi, hl, hk⟩ hlen hsp
    have hlt : w.heap.size + 1 < W.heap.size := (Array.getElem?_eq_some_iff.1 hl).1
    have hy := run_yield (P := P) (args := encs x) hl (by rw [hmk]; exact hps x)
    rw [hmk] at hy
    refine ⟨fn, _, assign, body, hy, roundIn_of_wpIn hfn (hassign _ x W _ ⟨_, run_beginRound hl (by rw [hmk]), ?_⟩)⟩
    obtain ⟨V, hV⟩ : ∃ V, W.putObj (w.heap.size + 1) (.loop { mk .ready none with state := .busy }) = V := ⟨_, rfl⟩
    have lV : V.heap[w.heap.size + 1]? = some (.loop { mk .ready none with state := .busy }) := by rw [← hV]; exact World.putObj_heap_same hlt
    have dV : V.heap[w.heap.size]? = some (.deferred (some [])) := by rw [← hV]; exact (World.putObj_heap_other (by omega)).trans hk
    have kV : KeepsFrom X.heap.size W V := by rw [← hV]; exact keepsFrom_put _ (by omega)
    have sV : Stay Kb X.heap.size T W V := by rw [← hV]; exact Stay.put _ hl (fun h => by have := hKb _ h; omega) (by omega)
    have iV : I T pre V := by rw [← hV]; exact (hI T).putObj _ hi (by omega) hl rfl
    rw [hV]
    refine wpIn_mono (hbody _ T pre x V (by omega) iV hlen hsp) ?_
    have fin : ∀ (jump : Option Code) (Z : World), KeepsOthers V Z → ∃ Y, (Instr.endRound (w.heap.size + 1) jump).run P Z = .ok (.bool jump.isNone) Y ∧ Y = Z.putObj (w.heap.size + 1) (.loop (mk (if jump.isNone then .ready else .done) jump)) ∧
        Z.heap[w.heap.size + 1]? = some (.loop { mk .ready none with state := .busy }) ∧ Y.heap[w.heap.size + 1]? = some (.loop (mk (if jump.isNone then .ready else .done) jump)) ∧ Y.heap[w.heap.size]? = some (.deferred (some [])) ∧ KeepsFrom X.heap.size W Y := by
      intro jump Z hZ
      have lZ := hZ.same _ _ lV rfl
      have := run_endRound (P := P) jump lZ
      refine ⟨_, by rw [hmk] at this ⊢; exact this, rfl, lZ, World.putObj_heap_same (Array.getElem?_eq_some_iff.1 lZ).1, (World.putObj_heap_other (by omega)).trans (hZ.same _ _ dV rfl), (kV.trans (hZ.from _)).trans (keepsFrom_put _ (by omega))⟩
    rintro e a3 Z hp
    cases e with
    | normal =>
      obtain ⟨hZ, hst, hi3⟩ := hp
      obtain ⟨Y, hr, hY, lZ, lY, dY, kY⟩ := fin none Z hZ
      refine ⟨_, Y, hr, kY, .inl ⟨rfl, ⟨?_, lY, dY⟩, ?_⟩⟩
      · rw [hY]; exact (hI T).putObj _ hi3 (by omega) lZ rfl
      · rw [hY]; exact (sV.trans (hst.less (by omega))).trans (Stay.put _ lZ (fun h => by have := hKb _ h; omega) (by omega))
    | ret =>
      obtain ⟨hZ, hi3⟩ := hp
      obtain ⟨Y, hr, hY, lZ, lY, dY, kY⟩ := fin (some .ret) Z hZ
      exact ⟨_, Y, hr, kY, .inr ⟨rfl, .ret, by rw [hY]; exact (hIx _).putObj _ hi3 (by omega) lZ rfl, lY, dY⟩⟩
    | exit id =>
      obtain ⟨hZ, hi3⟩ := hp
      obtain ⟨Y, hr, hY, lZ, lY, dY, kY⟩ := fin (some (.exit id)) Z hZ
      exact ⟨_, Y, hr, kY, .inr ⟨rfl, .exit id, by rw [hY]; exact (hIx _).putObj _ hi3 (by omega) lZ rfl, lY, dY⟩⟩
    | goto t =>
      obtain ⟨hZ, hi3⟩ := hp
      obtain ⟨Y, hr, hY, lZ, lY, dY, kY⟩ := fin (some (.goto t)) Z hZ
      exact ⟨_, Y, hr, kY, .inr ⟨rfl, .goto t, by rw [hY]; exact (hIx _).putObj _ hi3 (by omega) lZ rfl, lY, dY⟩⟩
    | panic ch => exact hp.elim
    | outgrown => exact hp.elim
  · rintro e Z ⟨⟨v, rfl⟩, (⟨xs, T, hS, hi, hl, hk⟩ | ⟨pre, hSp, c, hi, hl, hk⟩)⟩
    · exact ⟨none, _, by have := run_endLoop (P := P) hl (by rw [hmk]; simp); rw [hmk] at this; exact this, hdone _ T xs _ (Nat.le_refl _) hS ((hI T).putObj _ hi (by omega) hl rfl) ((World.putObj_heap_other (by omega)).trans hk)⟩
    · exact ⟨some c, _, by have := run_endLoop (P := P) hl (by rw [hmk]; simp); rw [hmk] at this; exact this, hstop _ c pre _ (Nat.le_refl _) hSp ((hIx c).putObj _ hi (by omega) hl rfl) ((World.putObj_heap_other (by omega)).trans hk)⟩
theorem range_ownG2 {F : Fence} {n : Nat} {P : Program} {α : Type} {g : Operand} {ps : Array Tmp} {assign body : Code} {Q : Exit → Act → World → Prop} {a : Act} {w : World}
    (hro : F.round = none) (h1 : 1 ≤ n) {gf : Nat} {lb : Array Value} (hg : a.eval g = .func (.func gf) #[] lb) (hFg : F.fn gf) (eg : ∀ args w, (callFunc gf args).run P w = .ok (.enter gf args) w)
    {encs : α → Array Value} {Kb : Nat → Prop} {S Sp : List α → Prop} {N : Nat} {w0 : World} (hseq : SeqOwn2 F (n - 1) P gf lb encs Kb S Sp N w0) (hKb : ∀ k, Kb k → k < w.heap.size) (hb0 : Below w0.heap.size w0 w) (hps : ∀ x, (encs x).size = ps.size)
    (I : Nat → List α → World → Prop) (Ix : Code → List α → World → Prop) (hI : ∀ T, OwnFrom w.heap.size (I T)) (hIx : ∀ c, OwnFrom w.heap.size (Ix c)) (h0 : ∀ W', w.grownBy W' none → I W'.heap.size [] W') (a₁ : α → Act)
    (hassign : ∀ (l : Nat) (x : α) (W : World) (K : Act → World → Prop), K (a₁ x) W →
      assign.wpIn (F.inRound l) (n - 1 - 1) P (Exit.then K (fun _ _ _ => False)) { tmps := (ps.zip (encs x)).foldl (fun t (p, v) => t.setIfInBounds p v) a.tmps, defers := [] } W)
    (hbody : ∀ (l T : Nat) (pre : List α) (x : α) (W : World), w.heap.size + 2 ≤ T → I T pre W → pre.length < N → Sp (pre ++ [x]) → body.wpIn (F.inRound l) (n - 1 - 1) P (ownPostG w.heap.size (Stay Kb w.heap.size T) (I T) Ix (pre ++ [x]) W) (a₁ x) W)
    (hdone : ∀ (D T : Nat) (xs : List α) (W : World), w.heap.size ≤ D → S xs → I T xs W → W.heap[D]? = some (.deferred (some [])) → Q .normal { a with defers := { target := .collected D, args := #[] } :: a.defers } W)
    (hstop : ∀ (D : Nat) (c : Code) (pre : List α) (W : World), w.heap.size ≤ D → Sp pre → Ix c pre W → W.heap[D]? = some (.deferred (some [])) → c.wpIn F n P Q { a with defers := { target := .collected D, args := #[] } :: a.defers } W) :
    (Code.rangeFunc g ps assign body).wpIn F n P Q a w := by
  refine wpIn_rangeFunc fun fn hfn => ?_
  rw [hro]
  obtain ⟨mk, hmk⟩ : ∃ mk : LoopState → Option Code → Loop, mk = fun st pe => { state := st, pending := pe, fn, tmps := a.tmps, params := ps, assign, body, defers := w.heap.size } := ⟨_, rfl⟩
  obtain ⟨X, hX⟩ : ∃ X, (w.alloc (.deferred (some []))).alloc (.loop (mk .ready none)) = X := ⟨_, rfl⟩
  have zX : X.heap.size = w.heap.size + 2 := by rw [← hX]; simp
  have lX : X.heap[w.heap.size + 1]? = some (.loop (mk .ready none)) := by
    rw [← hX]
    have := World.alloc_heap_new (w.alloc (.deferred (some []))) (.loop (mk .ready none))
    rwa [World.size_alloc] at this
  have dX : X.heap[w.heap.size]? = some (.deferred (some [])) := by rw [← hX]; exact (Below.heap_alloc _ _ _ (by simp)).trans (World.alloc_heap_new w _)
  have gX : w.grownBy X none := by rw [← hX]; exact (World.grownBy_alloc w _ none).trans (World.grownBy_alloc _ _ none)
  have bX : Below w0.heap.size w0 X := hb0.trans (((Below.refl _ w).grown gX (Nat.le_refl _) (fun k e => by cases e)).mono hb0.size)
  -- what stays of the loop's own two blocks when others turn
  have two : ∀ {o : Obj} {k : Nat} {A B : World} {row : Option Nat}, k < X.heap.size → A.heap[k]? = some o → A.grownBy B row → (∀ r, row = some r → X.heap.size ≤ r ∧ ∃ o : Obj, A.heap[r]? = some o ∧ o.isCells = false) → B.heap[k]? = some o := by
    intro o k A B row hk ho hgr hr
    exact (hgr.block k (Array.getElem?_eq_some_iff.1 ho).1 (fun e => by have := (hr k e.symm).1; omega)).trans ho
  have far : ∀ {A : World} {row : Option Nat}, (∀ r, row = some r → X.heap.size ≤ r ∧ ∃ o : Obj, A.heap[r]? = some o ∧ o.isCells = false) → (∀ r, row = some r → w.heap.size ≤ r ∧ ∃ o : Obj, A.heap[r]? = some o ∧ o.isCells = false) :=
    fun hr r e => ⟨by have := (hr r e).1; omega, (hr r e).2⟩
  refine ⟨w.heap.size + 1, [{ target := .collected w.heap.size, args := #[] }], X, { target := .fn (.func gf) lb, args := #[.func (.yield (w.heap.size + 1)) #[] #[]] }, X, gf, #[.func (.yield (w.heap.size + 1)) #[] #[]] ++ lb, X, ?_, ?_, ?_, ?_, fun _ => h1, ?_⟩
  · rw [← hX, hmk]; exact run_enterLoop_outer _ _ _ _ _
  · simp only [resolve, hg]
    simp [go_sem]
  · intro f' hf'; simp [Target.leads] at hf'; subst hf'; exact hFg
  · simp [invoke, go_sem, eg]
  refine (hseq (w.heap.size + 1)
    (fun T pre W => I T pre W ∧ W.heap[w.heap.size + 1]? = some (.loop (mk .ready none)) ∧ W.heap[w.heap.size]? = some (.deferred (some [])))
    (fun pre W => ∃ c, Ix c pre W ∧ W.heap[w.heap.size + 1]? = some (.loop (mk .done (some c))) ∧ W.heap[w.heap.size]? = some (.deferred (some [])))
    X bX ?prep ?own ?ownx ?round).mono ?_
  case prep =>
    intro W' hgr
    refine ⟨h0 W' (gX.trans hgr), ?_, ?_⟩
    · exact (hgr.block _ (by omega) (by simp)).trans lX
    · exact (hgr.block _ (by omega) (by simp)).trans dX
  case own => exact fun T s A B row hs hgr hr => ⟨hI T s A B row hs.1 hgr (far hr), two (by omega) hs.2.1 hgr hr, two (by omega) hs.2.2 hgr hr⟩
  case ownx =>
    rintro s A B row ⟨c, hc, hl, hk⟩ hgr hr
    exact ⟨c, hIx c s A B row hc hgr (far hr), two (by omega) hl hgr hr, two (by omega) hk hgr hr⟩
  case round =>
    rintro T pre x W hT ⟨hi, hl, hk⟩ hlen hsp
    have hlt : w.heap.size + 1 < W.heap.size := (Array.getElem?_eq_some_iff.1 hl).1
    have hy := run_yield (P := P) (args := encs x) hl (by rw [hmk]; exact hps x)
    rw [hmk] at hy
    refine ⟨fn, _, assign, body, hy, roundIn_of_wpIn hfn (hassign _ x W _ ⟨_, run_beginRound hl (by rw [hmk]), ?_⟩)⟩
    obtain ⟨V, hV⟩ : ∃ V, W.putObj (w.heap.size + 1) (.loop { mk .ready none with state := .busy }) = V := ⟨_, rfl⟩
    have lV : V.heap[w.heap.size + 1]? = some (.loop { mk .ready none with state := .busy }) := by rw [← hV]; exact World.putObj_heap_same hlt
    have dV : V.heap[w.heap.size]? = some (.deferred (some [])) := by rw [← hV]; exact (World.putObj_heap_other (by omega)).trans hk
    have kV : KeepsFrom X.heap.size W V := by rw [← hV]; exact keepsFrom_put _ (by omega)
    have sV : Stay Kb X.heap.size T W V := by rw [← hV]; exact Stay.put _ hl (fun h => by have := hKb _ h; omega) (by omega)
    have iV : I T pre V := by rw [← hV]; exact (hI T).putObj _ hi (by omega) hl rfl
    rw [hV]
    refine wpIn_mono (hbody _ T pre x V (by omega) iV hlen hsp) ?_
    have fin : ∀ (jump : Option Code) (Z : World), KeepsFrom w.heap.size V Z → ∃ Y, (Instr.endRound (w.heap.size + 1) jump).run P Z = .ok (.bool jump.isNone) Y ∧ Y = Z.putObj (w.heap.size + 1) (.loop (mk (if jump.isNone then .ready else .done) jump)) ∧
        Z.heap[w.heap.size + 1]? = some (.loop { mk .ready none with state := .busy }) ∧ Y.heap[w.heap.size + 1]? = some (.loop (mk (if jump.isNone then .ready else .done) jump)) ∧ Y.heap[w.heap.size]? = some (.deferred (some [])) ∧ KeepsFrom X.heap.size W Y := by
      intro jump Z hZ
      have lZ := hZ.same _ _ (by omega) lV rfl
      have := run_endRound (P := P) jump lZ
      refine ⟨_, by rw [hmk] at this ⊢; exact this, rfl, lZ, World.putObj_heap_same (Array.getElem?_eq_some_iff.1 lZ).1, (World.putObj_heap_other (by omega)).trans (hZ.same _ _ (by omega) dV rfl), (kV.trans ⟨hZ.size, fun k o hB => hZ.same k o (by omega)⟩).trans (keepsFrom_put _ (by omega))⟩
    rintro e a3 Z hp
    cases e with
    | normal =>
      obtain ⟨hZ, hst, hi3⟩ := hp
      obtain ⟨Y, hr, hY, lZ, lY, dY, kY⟩ := fin none Z hZ
      refine ⟨_, Y, hr, kY, .inl ⟨rfl, ⟨?_, lY, dY⟩, ?_⟩⟩
      · rw [hY]; exact (hI T).putObj _ hi3 (by omega) lZ rfl
      · rw [hY]; exact (sV.trans (hst.less (by omega))).trans (Stay.put _ lZ (fun h => by have := hKb _ h; omega) (by omega))
    | ret =>
      obtain ⟨hZ, hi3⟩ := hp
      obtain ⟨Y, hr, hY, lZ, lY, dY, kY⟩ := fin (some .ret) Z hZ
      exact ⟨_, Y, hr, kY, .inr ⟨rfl, .ret, by rw [hY]; exact (hIx _).putObj _ hi3 (by omega) lZ rfl, lY, dY⟩⟩
    | exit id =>
      obtain ⟨hZ, hi3⟩ := hp
      obtain ⟨Y, hr, hY, lZ, lY, dY, kY⟩ := fin (some (.exit id)) Z hZ
      exact ⟨_, Y, hr, kY, .inr ⟨rfl, .exit id, by rw [hY]; exact (hIx _).putObj _ hi3 (by omega) lZ rfl, lY, dY⟩⟩
    | goto t =>
      obtain ⟨hZ, hi3⟩ := hp
      obtain ⟨Y, hr, hY, lZ, lY, dY, kY⟩ := fin (some (.goto t)) Z hZ
      exact ⟨_, Y, hr, kY, .inr ⟨rfl, .goto t, by rw [hY]; exact (hIx _).putObj _ hi3 (by omega) lZ rfl, lY, dY⟩⟩
    | panic ch => exact hp.elim
    | outgrown => exact hp.elim
  · rintro e Z ⟨⟨v, rfl⟩, (⟨xs, T, hS, hi, hl, hk⟩ | ⟨pre, hSp, c, hi, hl, hk⟩)⟩
    · exact ⟨none, _, by have := run_endLoop (P := P) hl (by rw [hmk]; simp); rw [hmk] at this; exact this, hdone _ T xs _ (Nat.le_refl _) hS ((hI T).putObj _ hi (by omega) hl rfl) ((World.putObj_heap_other (by omega)).trans hk)⟩
    · exact ⟨some c, _, by have := run_endLoop (P := P) hl (by rw [hmk]; simp); rw [hmk] at this; exact this, hstop _ c pre _ (Nat.le_refl _) hSp ((hIx c).putObj _ hi (by omega) hl rfl) ((World.putObj_heap_other (by omega)).trans hk)⟩
theorem values2_in {α : Type} (f : α → Int) (n : Nat) (hn : 1 ≤ n) (l Bs : Nat) (sa : Option Addr) (sc : Nat) (L : List α) (hL : L.length ≤ 1000) (Kp : World → World → Prop) (hKp : ∀ W W', Row W sa (L.map f) → Kp W W' → Row W' sa (L.map f)) (J Jx : List α → World → Prop)
    (hY : ∀ pre x W, J pre W → pre.length < L.length → (pre ++ [x]) <+: L → YieldAt Fence.wide (n - 1) Tryz.prog l #[.int .i64 (f x)] W fun e W' =>
      (e = .returned (.bool true) ∧ J (pre ++ [x]) W' ∧ Kp W W') ∨ (e = .returned (.bool false) ∧ Jx (pre ++ [x]) W'))
    (W : World) (hr : Row W sa (L.map f)) (hBs : W.cell? ⟨Bs, 0, none⟩ = some (.slice sa L.length sc)) (h0 : J [] W) :
    CallsIn Fence.wide n Tryz.prog 94 #[.func (.yield l) #[] #[], .pointer (some ⟨Bs, 0, none⟩)] W fun e W' => (∃ v, e = .returned v) ∧
      ((∃ ys, ys = L ∧ J ys W') ∨ (∃ pre, pre <+: L ∧ Jx pre W')) := by
  refine callsIn_of_wp Tryz.func94 rfl trivial ?_ rfl
  simp only [Tryz.ntmps94, List.size_toArray, List.length_cons, List.length_nil, Nat.reduceAdd, Nat.reduceSub, Array.replicate_succ, Array.replicate_zero, List.push_toArray, List.append_toArray, List.nil_append, List.cons_append]
  have HR := hid hr
  have HKP := hid hKp
  clear hr hKp
  gi_wp2
  gi_loopw [7] (fun i wr => ∃ k : Nat, k ≤ L.length ∧ i = .int .i64 k ∧ J (L.take k) wr ∧ Row wr sa (L.map f))
    (fun i _ => L.length - (intOf i).toNat)
  case atStart => exact ⟨0, Nat.zero_le _, rfl, h0, HR.out⟩
  case round =>
    obtain ⟨k, hk, rfl, hJs, hnx'⟩ := hrel
    have hnx := hid hnx'
    clear hnx'
    by_cases hlt : k < L.length
    · obtain ⟨x, hx⟩ : ∃ x, L[k]? = some x := ⟨_, List.getElem?_eq_getElem hlt⟩
      have hne : L.map f ≠ [] := by intro e; have := congrArg List.length e; simp at this; subst this; simp at hlt
      obtain ⟨b, off, rfl, hb, hcs⟩ := hnx.out.at hne
      obtain ⟨v, hcx, hv⟩ := hcs wr (Below.refl _ _) k (by simpa using hlt)
      obtain rfl : v = f x := by have := hv.out; simp [hx] at this; exact this.symm
      have e1 : L.take (k + 1) = L.take k ++ [x] := by rw [List.take_add_one, hx]; rfl
      obtain ⟨fn, tmps, assign, body, hy, hR⟩ := hY (L.take k) x wr hJs (by simp; omega) (by rw [← e1]; exact List.take_prefix _ _)
      have HE := hid e1
      clear hv hcs e1 hx hne
      gi_wp2
      refine hR.mono ?_
      rintro e W3 (⟨rfl, hJ3, hk3⟩ | ⟨rfl, hJx3⟩)
      · gi_wp2
        go_roundw
        case rel => exact ⟨k + 1, by omega, by simp, by rw [HE.out]; exact hJ3, HKP.out _ _ hnx.out hk3⟩
        case measure => simp [intOf]; omega
      · gi_wp2
        refine bodyPost_ret (results_none rfl _ _ _) rfl ?_
        exact ⟨⟨_, rfl⟩, .inr ⟨_, by rw [← HE.out]; exact List.take_prefix _ _, hJx3⟩⟩
    · obtain rfl : k = L.length := by omega
      gi_wp2
      go_end0
      exact ⟨⟨_, rfl⟩, .inl ⟨_, by simp, hJs⟩⟩
theorem values_own2 {α : Type} (f : α → Int) (n : Nat) (hn : 1 ≤ n) (Bs : Nat) (sa : Option Addr) (sc : Nat) (L : List α) (hL : L.length ≤ 1000) (K : Nat → Prop) (hK : ∀ b off, sa = some ⟨b, off, none⟩ → K b) (w : World) (hr : Row w sa (L.map f)) (hBs : Bs < w.heap.size) (hc : w.cell? ⟨Bs, 0, none⟩ = some (.slice sa L.length sc)) :
    SeqOwn2 Fence.wide n Tryz.prog 94 #[.pointer (some ⟨Bs, 0, none⟩)] (fun x : α => #[Value.int .i64 (f x)]) K (fun ys => ys = L) (fun pre => pre <+: L) L.length w := fun l J Jx W hW hprep _ _ hY => by
  refine (values2_in f n hn l Bs sa sc L hL (Stay K W.heap.size W.heap.size) ?_ (J W.heap.size) Jx ?_ W (hr.below hW) ((hW.cell (p := ⟨Bs, 0, none⟩) hBs).trans hc) (hprep W (World.grownBy.refl _ _))).mono ?_
  · intro V V' hr hs
    rcases hr with hr | ⟨b, off, rfl, hcs⟩
    · exact .inl hr
    · exact .inr ⟨b, off, rfl, fun i hi => by rw [cell_same (p := ⟨b, off + i, none⟩) (hs.2 b (.inl (hK b off rfl)))]; exact hcs i hi⟩
  · intro pre x V hJ hlen hsp
    obtain ⟨fn, tm, asg, bd, hy, hR⟩ := hY W.heap.size pre x V (Nat.le_refl _) hJ hlen hsp
    refine ⟨fn, tm, asg, bd, hy, hR.mono ?_⟩
    rintro e Z ⟨_, h⟩
    exact h
  · rintro e Z ⟨he, (⟨ys, hS, hJ⟩ | hx)⟩
    · exact ⟨he, .inl ⟨ys, _, hS, hJ⟩⟩
    · exact ⟨he, .inr hx⟩
set_option maxHeartbeats 4000000 in
theorem edges_own2 {g : List (List Nat)} (G : Gr g) (a : Option Addr) (c : Nat) (P : Nat × Nat → Prop) (hP : ∀ u ∈ setL (order7 g), ∀ l, g[u]? = some l → ∀ v ∈ l, P (u, v)) (hlt : ∀ u ∈ order7 g, u < g.length) (hol : (order7 g).length ≤ 12)
    (n : Nat) (hn : 4 ≤ n) (Bg : Nat) (K : Nat → Prop) (w0 w : World) (h : GRow w0 a g) (hb0 : Below w0.heap.size w0 w) (hK0 : ∀ k, k < w0.heap.size → K k) (hKg : K Bg) (hKw : ∀ k, K k → k < w.heap.size) (hc : w.cell? ⟨Bg, 0, none⟩ = some (.slice a g.length c)) :
    SeqOwn2 Fence.wide n Tryz.prog 78 #[.pointer (some ⟨Bg, 0, none⟩)] (fun x : { e : Nat × Nat // P e } => #[Value.int .i64 (x.1.1 : Int), Value.int .i64 (x.1.2 : Int)]) K (fun ys => ys.map (·.1) = edgesL g) (fun pre => pre.map (·.1) <+: edgesL g) 144 w := by
  intro l J Jx W hW hprep hown hownx hY
  have hgm := G.most
  have n1 : 1 ≤ n := by omega
  have n2 : 1 ≤ n - 1 := by omega
  have n3 : 1 ≤ n - 1 - 1 := by omega
  have H := hid (And.intro h hP)
  have HY := hid hY
  have HP := hid (And.intro hprep (And.intro hown hownx))
  clear h hP hY hprep hown hownx
  refine callsIn_of_wp_marks Tryz.func78 rfl trivial ?_ rfl
  simp only [Tryz.ntmps78, List.size_toArray, List.length_cons, List.length_nil, Nat.reduceAdd, Nat.reduceSub, Array.replicate_succ, Array.replicate_zero, List.push_toArray, List.append_toArray, List.nil_append, List.cons_append]
  have hBg : Bg < w.heap.size := hKw _ hKg
  have cg : W.cell? ⟨Bg, 0, none⟩ = some (.slice a g.length c) := (hW.cell (p := ⟨Bg, 0, none⟩) hBg).trans hc
  have BW : Below w0.heap.size w0 W := hb0.trans (hW.mono hb0.size)
  have bA := below1 W (.cells #[.func (.yield l) #[] #[]] 106)
  have cg1 : (W.alloc (.cells #[.func (.yield l) #[] #[]] 106)).cell? ⟨Bg, 0, none⟩ = some (.slice a g.length c) := cell_below cg bA
  have HN := hid (nodesIn_any G a c (W.alloc (.cells #[.func (.yield l) #[] #[]] 106)) (LRow.below H.out.1 (BW.trans (bA.mono BW.size))) (by omega))
  gi_wp2_with (first | (refine ⟨trivial, ?_⟩; gi_at_call 79; refine (callsIn_wide.2 HN.out).mono ?_; rintro e w1 ⟨ua, uc, rfl, ho1, hb1⟩) | (refine ⟨trivial, ?_⟩; gi_at_call 37; refine (callsIn_wide.2 (all_any _ _ _ _)).mono ?_; rintro e w' ⟨rfl, rfl⟩))
  have hol2 := setL_len (order7 g)
  obtain ⟨X, hX⟩ : ∃ X, ((w1.alloc (Obj.cells #[Value.slice ua (setL (order7 g)).length uc] 60)).alloc (Obj.cells #[Value.slice ua (setL (order7 g)).length uc] 35)) = X := ⟨_, rfl⟩
  have zX : X.heap.size = w1.heap.size + 2 := by rw [← hX]; simp
  have b1X : Below w1.heap.size w1 X := by rw [← hX]; exact below2 _ _ _
  have z1 : W.heap.size + 1 ≤ w1.heap.size := by have := hb1.size; simpa using this
  have BWX : Below W.heap.size W X := (bstep' bA hb1).trans (b1X.mono (by omega))
  have gWX : W.grownBy X none := grownBy_of_below BWX _
  have yX : Boxed X W.heap.size 106 (.func (.yield l) #[] #[]) := by
    have h1 := Boxed.new W 106 (.func (.yield l) #[] #[])
    have h2 := boxed_below h1 hb1
    exact boxed_below h2 b1X
  have cgX : X.cell? ⟨Bg, 0, none⟩ = some (.slice a g.length c) := cell_below cg BWX
  have cX : X.cell? ⟨w1.heap.size + 1, 0, none⟩ = some (.slice ua (setL (order7 g)).length uc) := by
    rw [← hX]
    have := Boxed.new (w1.alloc (Obj.cells #[Value.slice ua (setL (order7 g)).length uc] 60)) 35 (.slice ua (setL (order7 g)).length uc)
    rw [World.size_alloc] at this
    exact this.cell
  have oX := owns_below ho1 b1X
  have hspan : ∀ b off, ua = some ⟨b, off, none⟩ → W.heap.size ≤ b ∧ b < X.heap.size := by
    intro b off e
    subst e
    have h1 := ho1.lt b (by rfl)
    simp only [World.size_alloc] at h1
    omega
  have rX : Row X ua (nats (setL (order7 g))) := own_row (c := uc) (by rw [nats_length]; exact oX)
  rw [hX]
  have HX := hid (And.intro gWX (And.intro hspan rX))
  clear hX ho1 hb1 oX gWX hspan rX b1X HN
  refine range_ownG2 rfl n1 (gf := 94) (lb := #[.pointer (some ⟨w1.heap.size + 1, 0, none⟩)]) rfl trivial (enters_of Tryz.func94 (by kernel_rfl) rfl)
    (values_own2 (fun u : { u : Nat // u ∈ setL (order7 g) } => (u.1 : Int)) _ (by omega) (w1.heap.size + 1) ua uc (setL (order7 g)).attach (by rw [List.length_attach]; omega) (fun k => K k ∨ (W.heap.size ≤ k ∧ k < X.heap.size)) (fun b off e => .inr (HX.out.2.1 b off e)) X (by rw [attach_nats]; exact HX.out.2.2) (by omega) (by rw [List.length_attach]; exact cX))
    (fun k hk => by rcases hk with hk | hk; (have := hKw _ hk; have := hW.size; have := BWX.size; omega); omega) (Below.refl _ _) (fun _ => rfl)
    (fun T pre V => (∃ es : List { e : Nat × Nat // P e }, es.map (·.1) = (pre.map (·.1)).flatMap (edgesAt g) ∧ J T es V) ∧ Stay K W.heap.size X.heap.size X V)
    (fun cd pre V => cd = .ret ∧ ∃ es : List { e : Nat × Nat // P e }, es.map (·.1) <+: (pre.map (·.1)).flatMap (edgesAt g) ∧ Jx es V)
    (fun T => OwnFrom.and (fun s A B row hs hg hr => by
      obtain ⟨es, he, hj⟩ := hs
      exact ⟨es, he, HP.out.2.1 _ es A B row hj hg (fun r e => ⟨by have := (hr r e).1; have := BWX.size; omega, (hr r e).2⟩)⟩) (stay_own (fun k hk => by have := hKw _ hk; have := hW.size; have := BWX.size; omega) (Nat.le_refl _) (Nat.le_refl _)))
    (fun cd s A B row hs hg hr => by
      obtain ⟨hcd, es, he, hj⟩ := hs
      exact ⟨hcd, es, he, HP.out.2.2 es A B row hj hg (fun r e => ⟨by have := (hr r e).1; have := BWX.size; omega, (hr r e).2⟩)⟩)
    (fun W' hg => ⟨⟨[], rfl, HP.out.1 W' (HX.out.1.trans hg)⟩, (Below.refl 0 X).grown hg (by omega) (fun k e => by cases e), fun k hk => hg.block k (by rcases hk with hk | hk; (have := hKw _ hk; have := hW.size; have := BWX.size; omega); omega) (by simp)⟩)
    (fun u => { tmps := #[Value.func (Fn.yield l) #[] #[], Value.pointer (some { block := Bg, off := 0 }), Value.pointer (some { block := W.heap.size, off := 0 }), .int .i64 (u.1 : Int), undef, undef, Value.agg #[Value.slice a g.length c], Value.agg #[Value.slice ua (setL (order7 g)).length uc], Value.func (Fn.func 94) #[] #[Value.pointer (some { block := w1.heap.size + 1, off := 0 })], .int .i64 (u.1 : Int), undef, undef, undef, undef, undef, undef, undef, undef, undef, undef, undef, undef, undef, undef, undef, undef], defers := [] }) ?assign ?body ?done ?stop
  case assign =>
    intro l' x V Kc hKc
    gi_wp2
    exact hKc
  case body =>
    rintro l' T pre x V hT ⟨⟨es, hes, hJ⟩, hst⟩ hlen hsp
    rw [List.length_attach] at hlen
    have hxl : x.1 < g.length := hlt _ ((setL_mem _ _).1 x.2)
    obtain ⟨lst, hlst⟩ : ∃ lst, g[x.1]? = some lst := ⟨_, List.getElem?_eq_getElem hxl⟩
    have BV : Below w0.heap.size w0 V := (BW.trans (BWX.mono BW.size)).trans (hst.whole hK0)
    obtain ⟨b, off, ta, tc, rfl, hcl, hrow, hbb⟩ := H.out.1.at' BV hlst
    have yV : V.cell? ⟨W.heap.size, 0, none⟩ = some (.func (.yield l) #[] #[]) := (cell_same (p := ⟨W.heap.size, 0, none⟩) (hst.2 W.heap.size (.inr ⟨Nat.le_refl _, by omega⟩))).trans yX.cell
    have cgV : V.cell? ⟨Bg, 0, none⟩ = some (.slice (some ⟨b, off, none⟩) g.length c) := (cell_same (p := ⟨Bg, 0, none⟩) (hst.2 _ (.inl hKg))).trans cgX
    have hll : lst.length ≤ 12 := by have h1 := nodup_le (n := g.length) (rising_nodup (G.rising _ lst hlst)) (fun k hk => G.below _ lst hlst k hk); omega
    have HR := hid hrow
    have HJ := hid (And.intro hes (And.intro hJ (And.intro hst hlst)))
    clear hrow hes hJ hst hlst
    gi_wp2
    gi_loopw [16] (fun t16 wr => ∃ (j : Nat) (es : List { e : Nat × Nat // P e }), t16 = .int .i64 j ∧ j ≤ lst.length ∧ es.map (·.1) = (pre.map (·.1)).flatMap (edgesAt g) ++ (lst.take j).map (fun v => (x.1, v)) ∧ J T es wr ∧ Stay K W.heap.size X.heap.size X wr ∧ Stay (fun k => K k ∨ (W.heap.size ≤ k ∧ k < X.heap.size)) X.heap.size T V wr ∧ KeepsFrom X.heap.size V wr) (fun t16 _ => lst.length - (intOf t16).toNat)
    case atStart => exact ⟨0, es, rfl, by omega, by simpa using HJ.out.1, HJ.out.2.1, HJ.out.2.2.1, ⟨Below.refl _ _, fun _ _ => rfl⟩, KeepsFrom.refl _ _⟩
    case round =>
      obtain ⟨j, es2, rfl, hj, hes2, hJ2, hst2, hst3, hkf⟩ := hrel
      have HQ := hid (And.intro hes2 (And.intro hJ2 (And.intro hst2 (And.intro hst3 hkf))))
      clear hes2 hJ2 hst2 hst3 hkf
      by_cases hjl : j < lst.length
      · obtain ⟨v, hv⟩ : ∃ v, lst[j]? = some v := ⟨_, List.getElem?_eq_getElem hjl⟩
        have hvm := List.mem_of_getElem? hv
        have hne : nats lst ≠ [] := by intro e; have := congrArg List.length e; rw [nats_length] at this; simp only [List.length_nil] at this; omega
        have BR : Below w0.heap.size w0 wr := (BW.trans (BWX.mono BW.size)).trans (HQ.out.2.2.1.whole hK0)
        obtain ⟨tb, toff, rfl, htb, hcs⟩ := HR.out.at hne
        obtain ⟨v', hcx, hv'⟩ := hcs wr BR j (by rw [nats_length]; exact hjl)
        obtain rfl : v' = (v : Int) := by have := hv'.out; simp [nats, hv] at this; exact this.symm
        have yR : wr.cell? ⟨W.heap.size, 0, none⟩ = some (.func (.yield l) #[] #[]) := (cell_same (p := ⟨W.heap.size, 0, none⟩) (HQ.out.2.2.1.2 W.heap.size (.inr ⟨Nat.le_refl _, by omega⟩))).trans yX.cell
        have hel : es2.length < 144 := by
          have h1 := congrArg List.length HQ.out.1
          have h2 := edges_few G (pre.map (·.1))
          simp only [List.length_map, List.length_append, List.length_take] at h1 h2
          omega
        have hPv : P (x.1, v) := H.out.2 x.1 x.2 lst HJ.out.2.2.2 v hvm
        have HE : Hid (lst.take (j + 1) = lst.take j ++ [v]) := by show _ = _; rw [List.take_add_one, hv]; rfl
        have hpx : (es2 ++ [(⟨(x.1, v), hPv⟩ : { e : Nat × Nat // P e })]).map (·.1) <+: edgesL g := by
          have e1 : (es2 ++ [(⟨(x.1, v), hPv⟩ : { e : Nat × Nat // P e })]).map (·.1) = (pre.map (·.1)).flatMap (edgesAt g) ++ (lst.take (j + 1)).map (fun v => (x.1, v)) := by
            rw [HE.out, List.map_append, HQ.out.1]
            simp
          have e2 : ((pre ++ [x]).map (·.1)).flatMap (edgesAt g) = (pre.map (·.1)).flatMap (edgesAt g) ++ lst.map (fun v => (x.1, v)) := by simp [edgesAt, HJ.out.2.2.2]
          have h3 : (es2 ++ [(⟨(x.1, v), hPv⟩ : { e : Nat × Nat // P e })]).map (·.1) <+: ((pre ++ [x]).map (·.1)).flatMap (edgesAt g) := by
            rw [e1, e2, List.prefix_append_right_inj]
            exact (List.take_prefix _ _).map _
          obtain ⟨rest, hrest⟩ := hsp
          have h1 : setL (order7 g) = (pre ++ [x]).map (·.1) ++ rest.map (·.1) := by rw [← List.map_append, hrest]; exact (List.attach_map_subtype_val _).symm
          have h5 : edgesL g = ((pre ++ [x]).map (·.1)).flatMap (edgesAt g) ++ (rest.map (·.1)).flatMap (edgesAt g) := (congrArg (fun s => s.flatMap (edgesAt g)) h1).trans List.flatMap_append
          exact h3.trans ⟨_, h5.symm⟩
        obtain ⟨fn, tm, asg, bd, hy, hR⟩ := HY.out T es2 ⟨(x.1, v), hPv⟩ wr (by have := BWX.size; omega) HQ.out.2.1 hel hpx
        dsimp only at hy
        have HRR := hid hR
        clear hv' hcs hne hv hvm hel hR
        gi_wp2
        refine (RoundIn.deep HRR.out).mono ?_
        rintro e Z ⟨hkz, (⟨rfl, hjz, hsz⟩ | ⟨rfl, hjz⟩)⟩
        · have HZ := hid (And.intro hkz (And.intro hjz hsz))
          clear hkz hjz hsz
          gi_wp2
          go_roundw
          case rel =>
            refine ⟨j + 1, es2 ++ [⟨(x.1, v), hPv⟩], by go_num, by omega, ?_, HZ.out.2.1, HQ.out.2.2.1.trans ⟨HZ.out.2.2.1, fun k hk => HZ.out.2.2.2 k (hk.imp id (fun h => ⟨h.1, by omega⟩))⟩, HQ.out.2.2.2.1.trans ⟨HZ.out.2.2.1, fun k hk => HZ.out.2.2.2 k (by rcases hk with (h | h) | h; exact .inl h; exact .inr ⟨h.1, by omega⟩; exact .inr ⟨by have := BWX.size; omega, h.2⟩)⟩, HQ.out.2.2.2.2.trans ⟨HZ.out.1.size, fun k o hk => HZ.out.1.same k o (by have := BWX.size; omega)⟩⟩
            rw [HE.out, List.map_append, HQ.out.1]
            simp
          case measure => simp [intOf]; omega
        · have HZ := hid (And.intro hkz hjz)
          clear hkz hjz
          gi_wp2
          refine ⟨HQ.out.2.2.2.2.trans ⟨HZ.out.1.size, fun k o hk => HZ.out.1.same k o (by have := BWX.size; omega)⟩, rfl, es2 ++ [⟨(x.1, v), hPv⟩], ?_, HZ.out.2⟩
          have e1 : (es2 ++ [(⟨(x.1, v), hPv⟩ : { e : Nat × Nat // P e })]).map (·.1) = (pre.map (·.1)).flatMap (edgesAt g) ++ (lst.take (j + 1)).map (fun v => (x.1, v)) := by
            rw [HE.out, List.map_append, HQ.out.1]
            simp
          have e2 : ((pre ++ [x]).map (·.1)).flatMap (edgesAt g) = (pre.map (·.1)).flatMap (edgesAt g) ++ lst.map (fun v => (x.1, v)) := by simp [edgesAt, HJ.out.2.2.2]
          rw [e1, e2, List.prefix_append_right_inj]
          exact (List.take_prefix _ _).map _
      · obtain rfl : j = lst.length := by omega
        gi_wp2
        refine ⟨HQ.out.2.2.2.2, HQ.out.2.2.2.1, ⟨es2, ?_, HQ.out.2.1⟩, HQ.out.2.2.1⟩
        rw [HQ.out.1, List.take_of_length_le (Nat.le_refl _)]
        simp [edgesAt, HJ.out.2.2.2]
  case done =>
    rintro D T xs V hD rfl ⟨⟨es, hes, hJ⟩, hst⟩ hK
    gi_wp2
    refine ⟨by simp, .inl ⟨_, _, rfl, run_takeDeferred hK, ?_⟩⟩
    refine ⟨_, results_none rfl _ _ _, ⟨_, rfl⟩, .inl ⟨es, T, ?_, ?_⟩⟩
    · rw [hes, List.attach_map_subtype_val]; rfl
    · exact (HP.out.2.1 _).putObj _ hJ (by have := BWX.size; omega) hK rfl
  case stop =>
    rintro D cd pre V hD hpre ⟨rfl, es, hes, hJ⟩ hK
    gi_wp2
    refine ⟨by simp, .inl ⟨_, _, rfl, run_takeDeferred hK, ?_⟩⟩
    refine ⟨_, results_none rfl _ _ _, ⟨_, rfl⟩, .inr ⟨es, ?_, ?_⟩⟩
    · obtain ⟨rest, hrest⟩ := hpre
      have h1 : setL (order7 g) = pre.map (·.1) ++ rest.map (·.1) := by rw [← List.map_append, hrest]; exact (List.attach_map_subtype_val _).symm
      show es.map (·.1) <+: edgesL g
      unfold edgesL
      rw [h1, List.flatMap_append]
      exact hes.trans (List.prefix_append _ _)
    · exact HP.out.2.2.putObj _ hJ (by have := BWX.size; omega) hK rfl
set_option maxHeartbeats 4000000 in
theorem back_own2 {g : List (List Nat)} (G : Gr g) (a : Option Addr) (c : Nat) (D : List (List Nat)) (hD : IsDoms g D)
    (n : Nat) (hn : 8 ≤ n) (Bg Bd db dc B0 : Nat) (ys : List LV) (K : Nat → Prop) (w0 w : World) (h : GRow w0 a g) (hb0 : Below w0.heap.size w0 w) (hK0 : ∀ k, k < w0.heap.size → K k) (hKg : K Bg) (hKd : K Bd) (hKw : ∀ k, K k → k < w.heap.size) (hc : w.cell? ⟨Bg, 0, none⟩ = some (.slice a g.length c))
    (hd : w.cell? ⟨Bd, 0, none⟩ = some (.slice (some ⟨db, 0, none⟩) g.length dc)) (hs : OwnS w B0 (.slice (some ⟨db, 0, none⟩) g.length dc) ys) (hys : lists ys = natsL D) (hKs : ∀ x ∈ (⟨60, 1, .slice (some ⟨db, 0, none⟩) g.length dc, ys.length, vals ys⟩ :: ys.map rowL : List OR), ∀ k, x.v.ownBlock = some k → K k) :
    SeqOwn2 Fence.wide n Tryz.prog 100 #[.pointer (some ⟨Bg, 0, none⟩), .pointer (some ⟨Bd, 0, none⟩)] (fun x : { e : Nat × Nat // Lead g e.1 e.2 } => #[Value.int .i64 (x.1.1 : Int), Value.int .i64 (x.1.2 : Int)]) K (fun zs => zs.map (·.1) = backL g D) (fun pre => pre.map (·.1) <+: backL g D) 144 w := by
  intro l J Jx W hW hprep hown hownx hY
  have hgm := G.most
  have n1 : 1 ≤ n := by omega
  have n2 : 1 ≤ n - 1 := by omega
  have n3 : 1 ≤ n - 1 - 1 := by omega
  have H := hid h
  have HY := hid hY
  have HP := hid (And.intro hprep (And.intro hown hownx))
  have hsW : OwnS W B0 (.slice (some ⟨db, 0, none⟩) g.length dc) ys := Sep.below hs hW
  have hBg : Bg < w.heap.size := hKw _ hKg
  have hBd : Bd < w.heap.size := hKw _ hKd
  have cg : W.cell? ⟨Bg, 0, none⟩ = some (.slice a g.length c) := (hW.cell (p := ⟨Bg, 0, none⟩) hBg).trans hc
  have cd : W.cell? ⟨Bd, 0, none⟩ = some (.slice (some ⟨db, 0, none⟩) g.length dc) := (hW.cell (p := ⟨Bd, 0, none⟩) hBd).trans hd
  have BW : Below w0.heap.size w0 W := hb0.trans (hW.mono hb0.size)
  have bA := below1 W (.cells #[.func (.yield l) #[] #[]] 106)
  have cg1 : (W.alloc (.cells #[.func (.yield l) #[] #[]] 106)).cell? ⟨Bg, 0, none⟩ = some (.slice a g.length c) := cell_below cg bA
  have HSW := hid hsW
  clear h hY hprep hown hownx hs hsW hc hd
  refine callsIn_of_wp_marks Tryz.func100 rfl trivial ?_ rfl
  simp only [Tryz.ntmps100, List.size_toArray, List.length_cons, List.length_nil, Nat.reduceAdd, Nat.reduceSub, Array.replicate_succ, Array.replicate_zero, List.push_toArray, List.append_toArray, List.nil_append, List.cons_append]
  gi_wp2_with (refine ⟨trivial, ?_⟩; gi_at_call 39; refine (callsIn_wide.2 (edgesIn_any _ _ _ _)).mono ?_; rintro e w' ⟨rfl, rfl⟩)
  obtain ⟨X, hX⟩ : ∃ X, ((W.alloc (.cells #[.func (.yield l) #[] #[]] 106)).alloc (.cells #[.slice a g.length c] 25)) = X := ⟨_, rfl⟩
  have zX : X.heap.size = W.heap.size + 2 := by rw [← hX]; simp
  have BWX : Below W.heap.size W X := by rw [← hX]; exact below2 _ _ _
  have gWX : W.grownBy X none := grownBy_of_below BWX _
  have yX : Boxed X W.heap.size 106 (.func (.yield l) #[] #[]) := by rw [← hX]; exact (Boxed.new W 106 _).alloc _
  have xg : X.cell? ⟨W.heap.size + 1, 0, none⟩ = some (.slice a g.length c) := by
    rw [← hX]
    have := Boxed.new (W.alloc (.cells #[.func (.yield l) #[] #[]] 106)) 25 (.slice a g.length c)
    rw [World.size_alloc] at this
    exact this.cell
  have cdX := cell_below cd BWX
  have hsX : OwnS X B0 (.slice (some ⟨db, 0, none⟩) g.length dc) ys := Sep.below HSW.out BWX
  rw [hX]
  have HX := hid (And.intro gWX hsX)
  have hWw := hW.size
  clear hX gWX hsX HSW
  refine range_ownG2 rfl n1 (gf := 78) (lb := #[.pointer (some ⟨W.heap.size + 1, 0, none⟩)]) rfl trivial (enters_of Tryz.func78 (by kernel_rfl) rfl)
    (edges_own2 G a c (fun e => Lead g e.1 e.2) (edges_lead G) (order_lt G) (dfs_len G).1 _ (by omega) (W.heap.size + 1) (fun k => k < w0.heap.size ∨ k = W.heap.size + 1) w0 X H.out (BW.trans (BWX.mono BW.size)) (fun k hk => .inl hk) (.inr rfl) (fun k hk => by have := BW.size; omega) xg) (fun k hk => by have := BW.size; omega) (Below.refl _ _) (fun _ => rfl)
    (fun T pre V => (J T (pre.filter fun x => isB D x.1) V ∧ Stay K W.heap.size X.heap.size X V) ∧ T ≤ V.heap.size)
    (fun cd pre V => cd = .ret ∧ Jx (pre.filter fun x => isB D x.1) V)
    (fun T => OwnFrom.and (OwnFrom.and (fun s A B row hs hg hr => HP.out.2.1 _ _ A B row hs hg (fun r e => ⟨by have := (hr r e).1; omega, (hr r e).2⟩)) (stay_own (fun k hk => by have := hKw _ hk; omega) (Nat.le_refl _) (Nat.le_refl _))) (fun s A B row hs hg hr => Nat.le_trans hs hg.size))
    (fun cd s A B row hs hg hr => ⟨hs.1, HP.out.2.2 _ A B row hs.2 hg (fun r e => ⟨by have := (hr r e).1; omega, (hr r e).2⟩)⟩)
    (fun W' hg => ⟨⟨HP.out.1 W' (HX.out.1.trans hg), (Below.refl 0 X).grown hg (by omega) (fun k e => by cases e), fun k hk => hg.block k (by rcases hk with hk | hk; (have := hKw _ hk; omega); omega) (by simp)⟩, Nat.le_refl _⟩)
    (fun x => { tmps := #[Value.func (Fn.yield l) #[] #[], Value.pointer (some { block := Bg, off := 0 }), Value.pointer (some { block := Bd, off := 0 }), Value.pointer (some { block := W.heap.size, off := 0 }), .int .i64 (x.1.1 : Int), .int .i64 (x.1.2 : Int), Value.agg #[Value.slice a g.length c], Value.func (Fn.func 78) #[] #[Value.pointer (some { block := W.heap.size + 1, off := 0 })], .int .i64 (x.1.1 : Int), .int .i64 (x.1.2 : Int), undef, undef, undef, undef, undef, undef, undef, undef, undef, undef, undef, undef, undef], defers := [] }) ?assign ?body ?done ?stop
  case assign =>
    intro l' x V Kc hKc
    gi_wp2
    exact hKc
  case body =>
    rintro l' T pre x V hT ⟨⟨hJ, hst⟩, hTV⟩ hlen hsp
    have hfrom : x.1.1 < g.length := RchW.lt G x.2.1
    obtain ⟨r, hr⟩ : ∃ r, D[x.1.1]? = some r := ⟨_, List.getElem?_eq_getElem (by rw [hD.1]; exact hfrom)⟩
    obtain ⟨rv, hrv⟩ := own_of_lists hys hr
    have hsV : OwnS V B0 (.slice (some ⟨db, 0, none⟩) g.length dc) ys := (stay_only hst).sep HX.out.2 (fun y hy k hk hn => hn (hKs y hy k hk))
    have hro := hsV.1 (rowL ⟨nats r, rv⟩) (List.mem_cons_of_mem _ (List.mem_map_of_mem (List.mem_of_getElem? hrv)))
    simp only [OR.own, rowL, nats_length] at hro
    obtain ⟨ra, rc, e1⟩ := slice_of_owned hro
    subst e1
    have hrr : Row V ra (nats r) := own_row (xs := nats r) (by rw [nats_length]; exact hro)
    have cr : V.cell? ⟨db, x.1.1, none⟩ = some (.slice ra r.length rc) := Sep.cell hsV (List.mem_cons_self ..) rfl (by simp [vals, hrv])
    have yV : V.cell? ⟨W.heap.size, 0, none⟩ = some (.func (.yield l) #[] #[]) := (cell_same (p := ⟨W.heap.size, 0, none⟩) (hst.2 W.heap.size (.inr ⟨Nat.le_refl _, by omega⟩))).trans yX.cell
    have cV : V.cell? ⟨Bd, 0, none⟩ = some (.slice (some ⟨db, 0, none⟩) g.length dc) := (cell_same (p := ⟨Bd, 0, none⟩) (hst.2 _ (.inl hKd))).trans cdX
    have hr12 : r.length ≤ 12 := by
      have h8 := nodup_le (n := g.length) (rising_nodup (hD.2 _ r hr).1) (fun y hy => RchW.lt G (((hD.2 _ r hr).2 y).1 hy).2.1)
      omega
    have hVz := hst.1.size
    have HH := hid (has_any ra rc r x.1.2 V (by omega) hrr (hD.2 _ r hr).1)
    have hfl : (pre.filter fun x => isB D x.1).length < 144 := Nat.lt_of_le_of_lt (List.length_filter_le _ _) hlen
    have HJ := hid (And.intro hJ (And.intro hst hr))
    clear hJ hst hr hrv hsV hro hrr
    by_cases hx : x.1.2 ∈ r
    · have tx : decide (x.1.2 ∈ r) = true := decide_eq_true hx
      have hb : isB D x.1 = true := by unfold isB; rw [List.getD_eq_getElem?_getD, HJ.out.2.2]; exact tx
      have ef : (pre ++ [x]).filter (fun x => isB D x.1) = (pre.filter fun x => isB D x.1) ++ [x] := by simp [List.filter_append, hb]
      rw [tx] at HH
      have HEF := hid ef
      have hpx : ((pre.filter fun x => isB D x.1) ++ [x]).map (·.1) <+: backL g D := by rw [← ef, filt_map]; exact hsp.filter _
      clear tx hb ef hx
      gi_wp2_with (refine ⟨trivial, ?_⟩; gi_at_call 38; refine (CallsIn.inRound l' (callsIn_wide.2 HH.out)).mono ?_; rintro e w1 ⟨rfl, hb1⟩; have y1 := cell_below yV hb1; obtain ⟨fn, tm, asg, bd, hy, hR⟩ := HY.out T (pre.filter fun x => isB D x.1) x w1 (by omega) (HP.out.2.1 T _ V w1 none HJ.out.1 (grownBy_of_below hb1 none) (fun r e => by cases e)) hfl hpx)
      have HRR := hid hR
      clear hR
      refine (RoundIn.deep HRR.out).mono ?_
      have sV1 : Stay K W.heap.size T V w1 := Stay.below hb1 (fun k hk => by have := hKw _ hk; omega) hTV
      have sX1 : Stay K W.heap.size X.heap.size V w1 := Stay.below hb1 (fun k hk => by have := hKw _ hk; omega) (by omega)
      rintro e Z ⟨hkz, (⟨rfl, hjz, hsz⟩ | ⟨rfl, hjz⟩)⟩
      · have HZ := hid (And.intro hkz (And.intro hjz hsz))
        clear hkz hjz hsz
        gi_wp2
        have sZ := sV1.trans HZ.out.2.2
        refine ⟨⟨Nat.le_trans hb1.size HZ.out.1.size, fun k o hB hk ho => HZ.out.1.same k o (by omega) ((hb1.block k (Array.getElem?_eq_some_iff.1 hk).1).trans hk) ho⟩, ⟨sZ.1, fun k hk => sZ.2 k ?_⟩, ⟨by rw [HEF.out]; exact HZ.out.2.1, HJ.out.2.1.trans ⟨sZ.1, fun k hk => sZ.2 k (hk.imp id (fun h => ⟨h.1, by omega⟩))⟩⟩, Nat.le_trans hTV (Nat.le_trans hb1.size HZ.out.1.size)⟩
        rcases hk with (h | h) | h
        · exact .inl (hK0 k h)
        · exact .inr ⟨by omega, by omega⟩
        · exact .inr ⟨by omega, h.2⟩
      · have HZ := hid (And.intro hkz hjz)
        clear hkz hjz
        gi_wp2
        exact ⟨⟨Nat.le_trans hb1.size HZ.out.1.size, fun k o hB hk ho => HZ.out.1.same k o (by omega) ((hb1.block k (Array.getElem?_eq_some_iff.1 hk).1).trans hk) ho⟩, rfl, by rw [HEF.out]; exact HZ.out.2⟩
    · have tx : decide (x.1.2 ∈ r) = false := decide_eq_false hx
      have hb : isB D x.1 = false := by unfold isB; rw [List.getD_eq_getElem?_getD, HJ.out.2.2]; exact tx
      have ef : (pre ++ [x]).filter (fun x => isB D x.1) = (pre.filter fun x => isB D x.1) := by simp [List.filter_append, hb]
      rw [tx] at HH
      have HEF := hid ef
      clear tx hb ef hx
      gi_wp2_with (refine ⟨trivial, ?_⟩; gi_at_call 38; refine (CallsIn.inRound l' (callsIn_wide.2 HH.out)).mono ?_; rintro e w1 ⟨rfl, hb1⟩)
      refine ⟨fun f h => (by cases h), ?_⟩
      refine (‹∀ (a : Act) (w : World), wpListIn _ _ _ _ _ _ a w → _›) _ _ ?_
      gi_wp2
      have sV1 : Stay K W.heap.size X.heap.size V w1 := Stay.below hb1 (fun k hk => by have := hKw _ hk; omega) (by omega)
      refine ⟨(keeps_below hb1).from _, Stay.below hb1 (fun k hk => by rcases hk with h | h; (have := BW.size; omega); omega) hTV, ⟨?_, HJ.out.2.1.trans sV1⟩, Nat.le_trans hTV hb1.size⟩
      rw [HEF.out]
      exact HP.out.2.1 T _ V w1 none HJ.out.1 (grownBy_of_below hb1 none) (fun r e => by cases e)
  case done =>
    rintro Dd T xs V hDd hS ⟨⟨hJ, hst⟩, hTV⟩ hK
    gi_wp2
    refine ⟨by simp, .inl ⟨_, _, rfl, run_takeDeferred hK, ?_⟩⟩
    refine ⟨_, results_none rfl _ _ _, ⟨_, rfl⟩, .inl ⟨xs.filter (fun x => isB D x.1), T, ?_, ?_⟩⟩
    · rw [filt_map, hS]; rfl
    · exact (HP.out.2.1 _).putObj _ hJ (by omega) hK rfl
  case stop =>
    rintro Dd cd pre V hDd hpre ⟨rfl, hJ⟩ hK
    gi_wp2
    refine ⟨by simp, .inl ⟨_, _, rfl, run_takeDeferred hK, ?_⟩⟩
    refine ⟨_, results_none rfl _ _ _, ⟨_, rfl⟩, .inr ⟨pre.filter (fun x => isB D x.1), ?_, ?_⟩⟩
    · rw [filt_map]; exact hpre.filter _
    · exact HP.out.2.2.putObj _ hJ (by omega) hK rfl
end Go.Proofs.YtiadmmnnbnamjaaGreat
