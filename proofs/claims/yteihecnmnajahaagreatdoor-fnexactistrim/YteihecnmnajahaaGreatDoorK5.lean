/- A range over an iterator that itself goes through another one: what the iterator lays for itself lies in a span of blocks that the rounds leave alone. -/
import Derived.Test.YteihecnmnajahaaGreatDoorK2
import Derived.Test.YteihecnmnajahaaGreatDoorNodes7
import Derived.Test.YteihecnmnajahaaGreatDoorJ1
import Derived.ControlIn
namespace Go.Proofs.YteihecnmnajahaaGreatDoor
section
open Go Go.RowKit Go.Shelf
set_option linter.unusedVariables false
set_option linter.unusedSimpArgs false
set_option maxRecDepth 100000

/-- what a round leaves alone: the blocks that are named, and a span -/
def Stay (K : Nat → Prop) (A T : Nat) (W W' : World) : Prop := Below 0 W W' ∧ ∀ k, (K k ∨ (A ≤ k ∧ k < T)) → W'.heap[k]? = W.heap[k]?
theorem Stay.trans {K : Nat → Prop} {A T : Nat} {X Y Z : World} (h : Stay K A T X Y) (k : Stay K A T Y Z) : Stay K A T X Z := ⟨h.1.trans k.1, fun i hi => (k.2 i hi).trans (h.2 i hi)⟩
theorem Stay.less {K : Nat → Prop} {A B T : Nat} {X Y : World} (h : Stay K A T X Y) (hB : A ≤ B) : Stay K B T X Y := ⟨h.1, fun i hi => h.2 i (hi.imp id (fun hi => ⟨by omega, hi.2⟩))⟩
theorem Stay.put {K : Nat → Prop} {A T l : Nat} {W : World} {o : Obj} (o' : Obj) (hl : W.heap[l]? = some o) (h0 : ¬ K l) (hA : ¬ (A ≤ l ∧ l < T)) : Stay K A T W (W.putObj l o') :=
  ⟨(Below.refl 0 W).grown (grownBy_putObj' W l o') (by omega) (fun k e => by omega), fun i hi => World.putObj_heap_other (by rintro rfl; rcases hi with hi | hi; exact h0 hi; exact hA hi)⟩
theorem Stay.below {K : Nat → Prop} {A T : Nat} {W W' : World} (h : Below W.heap.size W W') (hK : ∀ k, K k → k < W.heap.size) (hT : T ≤ W.heap.size) : Stay K A T W W' := ⟨h.mono (by omega), fun k hk => h.block k (by rcases hk with hk | hk; exact hK k hk; omega)⟩
/-- what an iterator promises to a loop -/
def SeqOwn {α : Type} (F : Fence) (n : Nat) (P : Program) (g : Nat) (lb : Array Value) (encs : α → Array Value) (K : Nat → Prop) (S Sp : List α → Prop) (N : Nat) (w : World) : Prop :=
  ∀ (l : Nat) (J : Nat → List α → World → Prop) (Jx : List α → World → Prop) (W : World), Below w.heap.size w W →
    (∀ W', W.grownBy W' none → J W'.heap.size [] W') → (∀ T, OwnFrom W.heap.size (J T)) → OwnFrom W.heap.size Jx →
    (∀ T pre x W1, W.heap.size ≤ T → J T pre W1 → pre.length < N → YieldAt F (n - 1) P l (encs x) W1 fun e W' =>
      KeepsFrom W.heap.size W1 W' ∧ ((e = .returned (.bool true) ∧ J T (pre ++ [x]) W' ∧ Stay K W.heap.size T W1 W') ∨ (e = .returned (.bool false) ∧ Jx (pre ++ [x]) W'))) →
    CallsIn F n P g (#[.func (.yield l) #[] #[]] ++ lb) W fun e W' => (∃ v, e = .returned v) ∧ ((∃ xs T, S xs ∧ J T xs W') ∨ (∃ pre, Sp pre ∧ Jx pre W'))

theorem keepsFrom_put {B l : Nat} {W : World} (o' : Obj) (h : l < B) : KeepsFrom B W (W.putObj l o') := ⟨by simp [World.putObj], fun k o hB hk _ => by rw [World.putObj_heap_other (by omega)]; exact hk⟩
theorem range_own {F : Fence} {n : Nat} {P : Program} {α : Type} {g : Operand} {ps : Array Tmp} {assign body : Code} {Q : Exit → Act → World → Prop} {a : Act} {w : World}
    (hro : F.round = none) (h1 : 1 ≤ n) {gf : Nat} {lb : Array Value} (hg : a.eval g = .func (.func gf) #[] lb) (hFg : F.fn gf) (eg : ∀ args w, (callFunc gf args).run P w = .ok (.enter gf args) w)
    {encs : α → Array Value} {Kb : Nat → Prop} {S Sp : List α → Prop} {N : Nat} {w0 : World} (hseq : SeqOwn F (n - 1) P gf lb encs Kb S Sp N w0) (hKb : ∀ k, Kb k → k < w.heap.size) (hb0 : Below w0.heap.size w0 w) (hps : ∀ x, (encs x).size = ps.size)
    (I : Nat → List α → World → Prop) (Ix : Code → List α → World → Prop) (hI : ∀ T, OwnFrom w.heap.size (I T)) (hIx : ∀ c, OwnFrom w.heap.size (Ix c)) (h0 : ∀ W', w.grownBy W' none → I W'.heap.size [] W') (a₁ : α → Act)
    (hassign : ∀ (l : Nat) (x : α) (W : World) (K : Act → World → Prop), K (a₁ x) W →
      assign.wpIn (F.inRound l) (n - 1 - 1) P (Exit.then K (fun _ _ _ => False)) { tmps := (ps.zip (encs x)).foldl (fun t (p, v) => t.setIfInBounds p v) a.tmps, defers := [] } W)
    (hbody : ∀ (l T : Nat) (pre : List α) (x : α) (W : World), w.heap.size + 2 ≤ T → I T pre W → pre.length < N → body.wpIn (F.inRound l) (n - 1 - 1) P (ownPostK (Stay Kb w.heap.size T) (I T) Ix (pre ++ [x]) W) (a₁ x) W)
    (hdone : ∀ (D T : Nat) (xs : List α) (W : World), w.heap.size ≤ D → S xs → I T xs W → W.heap[D]? = some (.deferred (some [])) → Q .normal { a with defers := { target := .collected D, args := #[] } :: a.defers } W)
    (hstop : ∀ (D : Nat) (c : Code) (pre : List α) (W : World), w.heap.size ≤ D → Sp pre → Ix c pre W → W.heap[D]? = some (.deferred (some [])) → c.wpIn F n P Q { a with defers := { target := .collected D, args := #[] } :: a.defers } W) :
    (Code.rangeFunc g ps assign body).wpIn F n P Q a w := by
  refine wpIn_rangeFunc fun fn hfn => ?_
  rw [hro]
  obtain ⟨mk, hmk⟩ : ∃ mk : LoopState → Option Code → Loop, mk = fun st pe => { state := st, pending := pe, fn, tmps := a.tmps, params := ps, assign, body, defers := w.heap.size } := ⟨_, rfl⟩
  obtain ⟨X, hX⟩ : ∃ X, (w.alloc (.deferred (some []))).alloc (.loop (mk .ready none)) = X := ⟨_, rfl⟩
  have zX : X.heap.size = w.heap.size + 2 := by rw [← hX]; simp
  have lX : X.heap[w.heap.size + 1]? = some (.loop (mk .ready none)) := by
    rw [← hX]
    have := World.alloc_heap_new (w.alloc (.deferred (some []))) (.loop (mk .ready none))
    rwa [World.size_alloc] at this
  have dX : X.heap[w.heap.size]? = some (.deferred (some [])) := by rw [← hX]; exact (Below.heap_alloc _ _ _ (by simp)).trans (World.alloc_heap_new w _)
  have gX : w.grownBy X none := by rw [← hX]; exact (World.grownBy_alloc w _ none).trans (World.grownBy_alloc _ _ none)
  have bX : Below w0.heap.size w0 X := hb0.trans (((Below.refl _ w).grown gX (Nat.le_refl _) (fun k e => by cases e)).mono hb0.size)
  -- what stays of the loop's own two blocks when others turn
  have two : ∀ {o : Obj} {k : Nat} {A B : World} {row : Option Nat}, k < X.heap.size → A.heap[k]? = some o → A.grownBy B row → (∀ r, row = some r → X.heap.size ≤ r ∧ ∃ o : Obj, A.heap[r]? = some o ∧ o.isCells = false) → B.heap[k]? = some o := by
    intro o k A B row hk ho hgr hr
    exact (hgr.block k (Array.getElem?_eq_some_iff.1 ho).1 (fun e => by have := (hr k e.symm).1; omega)).trans ho
  have far : ∀ {A : World} {row : Option Nat}, (∀ r, row = some r → X.heap.size ≤ r ∧ ∃ o : Obj, A.heap[r]? = some o ∧ o.isCells = false) → (∀ r, row = some r → w.heap.size ≤ r ∧ ∃ o : Obj, A.heap[r]? = some o ∧ o.isCells = false) :=
    fun hr r e => ⟨by have := (hr r e).1; omega, (hr r e).2⟩
  refine ⟨w.heap.size + 1, [{ target := .collected w.heap.size, args := #[] }], X, { target := .fn (.func gf) lb, args := #[.func (.yield (w.heap.size + 1)) #[] #[]] }, X, gf, #[.func (.yield (w.heap.size + 1)) #[] #[]] ++ lb, X, ?_, ?_, ?_, ?_, fun _ => h1, ?_⟩
  · rw [← hX, hmk]; exact run_enterLoop_outer _ _ _ _ _
  · simp only [resolve, hg]
    simp [go_sem]
  · intro f' hf'; simp [Target.leads] at hf'; subst hf'; exact hFg
  · simp [invoke, go_sem, eg]
  refine (hseq (w.heap.size + 1)
    (fun T pre W => I T pre W ∧ W.heap[w.heap.size + 1]? = some (.loop (mk .ready none)) ∧ W.heap[w.heap.size]? = some (.deferred (some [])))
    (fun pre W => ∃ c, Ix c pre W ∧ W.heap[w.heap.size + 1]? = some (.loop (mk .done (some c))) ∧ W.heap[w.heap.size]? = some (.deferred (some [])))
    X bX ?prep ?own ?ownx ?round).mono ?_
  case prep =>
    intro W' hgr
    refine ⟨h0 W' (gX.trans hgr), ?_, ?_⟩
    · exact (hgr.block _ (by omega) (by simp)).trans lX
    · exact (hgr.block _ (by omega) (by simp)).trans dX
  case own => exact fun T s A B row hs hgr hr => ⟨hI T s A B row hs.1 hgr (far hr), two (by omega) hs.2.1 hgr hr, two (by omega) hs.2.2 hgr hr⟩
  case ownx =>
    rintro s A B row ⟨c, hc, hl, hk⟩ hgr hr
    exact ⟨c, hIx c s A B row hc hgr (far hr), two (by omega) hl hgr hr, two (by omega) hk hgr hr⟩
  case round =>
    rintro T pre x W hT ⟨hi, hl, hk⟩ hlen
    have hlt : w.heap.size + 1 < W.heap.size := (Array.getElem?_eq_some_iff.1 hl).1
    have hy := run_yield (P := P) (args := encs x) hl (by rw [hmk]; exact hps x)
    rw [hmk] at hy
    refine ⟨fn, _, assign, body, hy, roundIn_of_wpIn hfn (hassign _ x W _ ⟨_, run_beginRound hl (by rw [hmk]), ?_⟩)⟩
    obtain ⟨V, hV⟩ : ∃ V, W.putObj (w.heap.size + 1) (.loop { mk .ready none with state := .busy }) = V := ⟨_, rfl⟩
    have lV : V.heap[w.heap.size + 1]? = some (.loop { mk .ready none with state := .busy }) := by rw [← hV]; exact World.putObj_heap_same hlt
    have dV : V.heap[w.heap.size]? = some (.deferred (some [])) := by rw [← hV]; exact (World.putObj_heap_other (by omega)).trans hk
    have kV : KeepsFrom X.heap.size W V := by rw [← hV]; exact keepsFrom_put _ (by omega)
    have sV : Stay Kb X.heap.size T W V := by rw [← hV]; exact Stay.put _ hl (fun h => by have := hKb _ h; omega) (by omega)
    have iV : I T pre V := by rw [← hV]; exact (hI T).putObj _ hi (by omega) hl rfl
    rw [hV]
    refine wpIn_mono (hbody _ T pre x V (by omega) iV hlen) ?_
    have fin : ∀ (jump : Option Code) (Z : World), KeepsOthers V Z → ∃ Y, (Instr.endRound (w.heap.size + 1) jump).run P Z = .ok (.bool jump.isNone) Y ∧ Y = Z.putObj (w.heap.size + 1) (.loop (mk (if jump.isNone then .ready else .done) jump)) ∧
        Z.heap[w.heap.size + 1]? = some (.loop { mk .ready none with state := .busy }) ∧ Y.heap[w.heap.size + 1]? = some (.loop (mk (if jump.isNone then .ready else .done) jump)) ∧ Y.heap[w.heap.size]? = some (.deferred (some [])) ∧ KeepsFrom X.heap.size W Y := by
      intro jump Z hZ
      have lZ := hZ.same _ _ lV rfl
      have := run_endRound (P := P) jump lZ
      refine ⟨_, by rw [hmk] at this ⊢; exact this, rfl, lZ, World.putObj_heap_same (Array.getElem?_eq_some_iff.1 lZ).1, (World.putObj_heap_other (by omega)).trans (hZ.same _ _ dV rfl), (kV.trans (hZ.from _)).trans (keepsFrom_put _ (by omega))⟩
    rintro e a3 Z hp
    cases e with
    | normal =>
      obtain ⟨hZ, hst, hi3⟩ := hp
      obtain ⟨Y, hr, hY, lZ, lY, dY, kY⟩ := fin none Z hZ
      refine ⟨_, Y, hr, kY, .inl ⟨rfl, ⟨?_, lY, dY⟩, ?_⟩⟩
      · rw [hY]; exact (hI T).putObj _ hi3 (by omega) lZ rfl
      · rw [hY]; exact (sV.trans (hst.less (by omega))).trans (Stay.put _ lZ (fun h => by have := hKb _ h; omega) (by omega))
    | ret =>
      obtain ⟨hZ, hi3⟩ := hp
      obtain ⟨Y, hr, hY, lZ, lY, dY, kY⟩ := fin (some .ret) Z hZ
      exact ⟨_, Y, hr, kY, .inr ⟨rfl, .ret, by rw [hY]; exact (hIx _).putObj _ hi3 (by omega) lZ rfl, lY, dY⟩⟩
    | exit id =>
      obtain ⟨hZ, hi3⟩ := hp
      obtain ⟨Y, hr, hY, lZ, lY, dY, kY⟩ := fin (some (.exit id)) Z hZ
      exact ⟨_, Y, hr, kY, .inr ⟨rfl, .exit id, by rw [hY]; exact (hIx _).putObj _ hi3 (by omega) lZ rfl, lY, dY⟩⟩
    | goto t =>
      obtain ⟨hZ, hi3⟩ := hp
      obtain ⟨Y, hr, hY, lZ, lY, dY, kY⟩ := fin (some (.goto t)) Z hZ
      exact ⟨_, Y, hr, kY, .inr ⟨rfl, .goto t, by rw [hY]; exact (hIx _).putObj _ hi3 (by omega) lZ rfl, lY, dY⟩⟩
    | panic ch => exact hp.elim
    | outgrown => exact hp.elim
  · rintro e Z ⟨⟨v, rfl⟩, (⟨xs, T, hS, hi, hl, hk⟩ | ⟨pre, hSp, c, hi, hl, hk⟩)⟩
    · exact ⟨none, _, by have := run_endLoop (P := P) hl (by rw [hmk]; simp); rw [hmk] at this; exact this, hdone _ T xs _ (Nat.le_refl _) hS ((hI T).putObj _ hi (by omega) hl rfl) ((World.putObj_heap_other (by omega)).trans hk)⟩
    · exact ⟨some c, _, by have := run_endLoop (P := P) hl (by rw [hmk]; simp); rw [hmk] at this; exact this, hstop _ c pre _ (Nat.le_refl _) hSp ((hIx c).putObj _ hi (by omega) hl rfl) ((World.putObj_heap_other (by omega)).trans hk)⟩
end

section
open Go Go.RowKit Go.Shelf
attribute [local go_sem] Oper.semAt_some
set_option linter.unusedVariables false
set_option linter.unusedSimpArgs false
set_option maxRecDepth 100000

theorem RoundIn.deep {m m' : Nat} {P : Program} {l l' : Nat} {f : FuncId} {tmps : Array Value} {assign body : Code} {w : World} {R : Ending → World → Prop}
    (h : RoundIn Fence.wide m P l f tmps assign body w R) : RoundIn (Fence.wide.inRound l') m' P l f tmps assign body w R := ⟨h.1, fun c cs _ => h.2 c cs (fun d h => by cases h)⟩
theorem Stay.whole {K : Nat → Prop} {A T n : Nat} {W W' : World} (h : Stay K A T W W') (hK : ∀ k, k < n → K k) : Below n W W' := ⟨h.1.os, h.1.tape, h.1.output, h.1.size, fun k hk => h.2 k (.inl (hK k hk))⟩
theorem stay_own {β : Type} {K : Nat → Prop} {A T B : Nat} {W : World} (hK : ∀ k, K k → k < B) (hT : T ≤ B) (hB : B ≤ W.heap.size) : OwnFrom B (fun (_ : β) W' => Stay K A T W W') := by
  intro s X Y row hs hg hr
  refine ⟨hs.1.grown hg (by omega) (fun k e => by omega), fun k hk => ?_⟩
  have hkB : k < B := by rcases hk with hk | hk; exact hK k hk; omega
  exact (hg.block k (by have := hs.1.size; omega) (fun e => by have := (hr k e.symm).1; omega)).trans (hs.2 k hk)
theorem cell_same {W W' : World} {p : Addr} (h : W'.heap[p.block]? = W.heap[p.block]?) : W'.cell? p = W.cell? p := by simp only [World.cell?, h]
theorem attach_nats (s : List Nat) : (s.attach.map fun u => ((u.1 : Nat) : Int)) = nats s := by
  have : s.attach.map Subtype.val = s := List.attach_map_subtype_val s
  calc (s.attach.map fun u => ((u.1 : Nat) : Int)) = (s.attach.map Subtype.val).map (fun n : Nat => (n : Int)) := by rw [List.map_map]; rfl
    _ = nats s := by rw [this]; rfl
def edgesAt (g : List (List Nat)) (u : Nat) : List (Nat × Nat) := (g[u]?.getD []).map fun v => (u, v)
def edgesL (g : List (List Nat)) : List (Nat × Nat) := (setL (order7 g)).flatMap (edgesAt g)
theorem edges_few {g : List (List Nat)} (G : Gr g) : ∀ us : List Nat, (us.flatMap (edgesAt g)).length ≤ 12 * us.length
  | [] => by simp
  | u :: us => by
    have ih := edges_few G us
    have : (edgesAt g u).length ≤ 12 := by
      unfold edgesAt
      rw [List.length_map]
      cases hu : g[u]? with
      | none => simp
      | some l =>
        have h1 := nodup_le (n := g.length) (rising_nodup (G.rising u l hu)) (fun k hk => G.below u l hu k hk)
        have := G.most
        simp only [Option.getD_some]
        omega
    simp only [List.flatMap_cons, List.length_append, List.length_cons]
    omega
set_option maxHeartbeats 4000000 in
theorem edges_own {g : List (List Nat)} (G : Gr g) (a : Option Addr) (c : Nat) (P : Nat × Nat → Prop) (hP : ∀ u ∈ setL (order7 g), ∀ l, g[u]? = some l → ∀ v ∈ l, P (u, v)) (hlt : ∀ u ∈ order7 g, u < g.length) (hol : (order7 g).length ≤ 12)
    (n : Nat) (hn : 4 ≤ n) (Bg : Nat) (K : Nat → Prop) (w0 w : World) (h : GRow w0 a g) (hb0 : Below w0.heap.size w0 w) (hK0 : ∀ k, k < w0.heap.size → K k) (hKg : K Bg) (hKw : ∀ k, K k → k < w.heap.size) (hc : w.cell? ⟨Bg, 0, none⟩ = some (.slice a g.length c)) :
    SeqOwn Fence.wide n Tryz.prog 143 #[.pointer (some ⟨Bg, 0, none⟩)] (fun x : { e : Nat × Nat // P e } => #[Value.int .i64 (x.1.1 : Int), Value.int .i64 (x.1.2 : Int)]) K (fun ys => ys.map (·.1) = edgesL g) (fun pre => pre.map (·.1) <+: edgesL g) 144 w := by
  intro l J Jx W hW hprep hown hownx hY
  have hgm := G.most
  have n1 : 1 ≤ n := by omega
  have n2 : 1 ≤ n - 1 := by omega
  have n3 : 1 ≤ n - 1 - 1 := by omega
  have H := hid (And.intro h hP)
  have HY := hid hY
  have HP := hid (And.intro hprep (And.intro hown hownx))
  clear h hP hY hprep hown hownx
  refine callsIn_of_wp_marks Tryz.func143 rfl trivial ?_ rfl
  simp only [Tryz.ntmps143, List.size_toArray, List.length_cons, List.length_nil, Nat.reduceAdd, Nat.reduceSub, Array.replicate_succ, Array.replicate_zero, List.push_toArray, List.append_toArray, List.nil_append, List.cons_append]
  have hBg : Bg < w.heap.size := hKw _ hKg
  have cg : W.cell? ⟨Bg, 0, none⟩ = some (.slice a g.length c) := (hW.cell (p := ⟨Bg, 0, none⟩) hBg).trans hc
  have BW : Below w0.heap.size w0 W := hb0.trans (hW.mono hb0.size)
  have bA := below1 W (.cells #[.func (.yield l) #[] #[]] 186)
  have cg1 : (W.alloc (.cells #[.func (.yield l) #[] #[]] 186)).cell? ⟨Bg, 0, none⟩ = some (.slice a g.length c) := cell_below cg bA
  have HN := hid (nodesIn_any G a c (W.alloc (.cells #[.func (.yield l) #[] #[]] 186)) (LRow.below H.out.1 (BW.trans (bA.mono BW.size))) (by omega))
  gi_wp2_with (first | (refine ⟨trivial, ?_⟩; gi_at_call 144; refine (callsIn_wide.2 HN.out).mono ?_; rintro e w1 ⟨ua, uc, rfl, ho1, hb1⟩) | (refine ⟨trivial, ?_⟩; gi_at_call 114; refine (callsIn_wide.2 (all_any _ _ _ _)).mono ?_; rintro e w' ⟨rfl, rfl⟩))
  have hol2 := setL_len (order7 g)
  obtain ⟨X, hX⟩ : ∃ X, ((w1.alloc (Obj.cells #[Value.slice ua (setL (order7 g)).length uc] 112)).alloc (Obj.cells #[Value.slice ua (setL (order7 g)).length uc] 35)) = X := ⟨_, rfl⟩
  have zX : X.heap.size = w1.heap.size + 2 := by rw [← hX]; simp
  have b1X : Below w1.heap.size w1 X := by rw [← hX]; exact below2 _ _ _
  have z1 : W.heap.size + 1 ≤ w1.heap.size := by have := hb1.size; simpa using this
  have BWX : Below W.heap.size W X := (bstep' bA hb1).trans (b1X.mono (by omega))
  have gWX : W.grownBy X none := grownBy_of_below BWX _
  have yX : Boxed X W.heap.size 186 (.func (.yield l) #[] #[]) := by
    have h1 := Boxed.new W 186 (.func (.yield l) #[] #[])
    have h2 := boxed_below h1 hb1
    exact boxed_below h2 b1X
  have cgX : X.cell? ⟨Bg, 0, none⟩ = some (.slice a g.length c) := cell_below cg BWX
  have cX : X.cell? ⟨w1.heap.size + 1, 0, none⟩ = some (.slice ua (setL (order7 g)).length uc) := by
    rw [← hX]
    have := Boxed.new (w1.alloc (Obj.cells #[Value.slice ua (setL (order7 g)).length uc] 112)) 35 (.slice ua (setL (order7 g)).length uc)
    rw [World.size_alloc] at this
    exact this.cell
  have oX := owns_below ho1 b1X
  have hspan : ∀ b off, ua = some ⟨b, off, none⟩ → W.heap.size ≤ b ∧ b < X.heap.size := by
    intro b off e
    subst e
    have h1 := ho1.lt b (by rfl)
    simp only [World.size_alloc] at h1
    omega
  have rX : Row X ua (nats (setL (order7 g))) := own_row (c := uc) (by rw [nats_length]; exact oX)
  rw [hX]
  have HX := hid (And.intro gWX (And.intro hspan rX))
  clear hX ho1 hb1 oX gWX hspan rX b1X HN
  refine wpIn_rangeFunc_ownG rfl n1 (gf := 145) (lb := #[.pointer (some ⟨w1.heap.size + 1, 0, none⟩)]) rfl trivial (enters_of Tryz.func145 (by kernel_rfl) rfl)
    (values_keep (fun u : { u : Nat // u ∈ setL (order7 g) } => (u.1 : Int)) _ (by omega) (w1.heap.size + 1) ua uc (setL (order7 g)).attach (by rw [List.length_attach]; omega) (Stay K W.heap.size X.heap.size) ?keep X (by rw [attach_nats]; exact HX.out.2.2) (by omega) (by rw [List.length_attach]; exact cX))
    (fun {_ _ _} h k => Stay.trans h k) (fun V l' o o' hl ho _ _ => Stay.put _ ho (fun hk => by have := hKw _ hk; have := hW.size; have := BWX.size; omega) (by omega)) (Below.refl _ _) (fun _ => rfl)
    (fun pre V => (∃ es : List { e : Nat × Nat // P e }, es.map (·.1) = (pre.map (·.1)).flatMap (edgesAt g) ∧ J X.heap.size es V) ∧ Stay K W.heap.size X.heap.size X V)
    (fun cd pre V => cd = .ret ∧ ∃ es : List { e : Nat × Nat // P e }, es.map (·.1) <+: (pre.map (·.1)).flatMap (edgesAt g) ∧ Jx es V)
    (OwnFrom.and (fun s A B row hs hg hr => by
      obtain ⟨es, he, hj⟩ := hs
      exact ⟨es, he, HP.out.2.1 _ es A B row hj hg (fun r e => ⟨by have := (hr r e).1; have := BWX.size; omega, (hr r e).2⟩)⟩) (stay_own (fun k hk => by have := hKw _ hk; have := hW.size; have := BWX.size; omega) (Nat.le_refl _) (Nat.le_refl _)))
    (fun cd s A B row hs hg hr => by
      obtain ⟨hcd, es, he, hj⟩ := hs
      exact ⟨hcd, es, he, HP.out.2.2 es A B row hj hg (fun r e => ⟨by have := (hr r e).1; have := BWX.size; omega, (hr r e).2⟩)⟩)
    ⟨⟨[], rfl, HP.out.1 X HX.out.1⟩, Below.refl _ _, fun _ _ => rfl⟩
    (fun u => { tmps := #[Value.func (Fn.yield l) #[] #[], Value.pointer (some { block := Bg, off := 0 }), Value.pointer (some { block := W.heap.size, off := 0 }), .int .i64 (u.1 : Int), undef, undef, Value.agg #[Value.slice a g.length c], Value.agg #[Value.slice ua (setL (order7 g)).length uc], Value.func (Fn.func 145) #[] #[Value.pointer (some { block := w1.heap.size + 1, off := 0 })], .int .i64 (u.1 : Int), undef, undef, undef, undef, undef, undef, undef, undef, undef, undef, undef, undef, undef, undef, undef, undef], defers := [] }) ?assign ?body ?done ?stop
  case keep =>
    intro V V' hr hs
    rcases hr with hr | ⟨b, off, rfl, hcs⟩
    · exact .inl hr
    · exact .inr ⟨b, off, rfl, fun i hi => by rw [cell_same (p := ⟨b, off + i, none⟩) (hs.2 b (.inr (HX.out.2.1 b off rfl)))]; exact hcs i hi⟩
  case assign =>
    intro l' x V Kc hKc
    gi_wp2
    exact hKc
  case body =>
    rintro l' pre x V ⟨⟨es, hes, hJ⟩, hst⟩ hlen
    rw [List.length_attach] at hlen
    have hxl : x.1 < g.length := hlt _ ((setL_mem _ _).1 x.2)
    obtain ⟨lst, hlst⟩ : ∃ lst, g[x.1]? = some lst := ⟨_, List.getElem?_eq_getElem hxl⟩
    have BV : Below w0.heap.size w0 V := (BW.trans (BWX.mono BW.size)).trans (hst.whole hK0)
    obtain ⟨b, off, ta, tc, rfl, hcl, hrow, hbb⟩ := H.out.1.at' BV hlst
    have yV : V.cell? ⟨W.heap.size, 0, none⟩ = some (.func (.yield l) #[] #[]) := (cell_same (p := ⟨W.heap.size, 0, none⟩) (hst.2 W.heap.size (.inr ⟨Nat.le_refl _, by omega⟩))).trans yX.cell
    have cgV : V.cell? ⟨Bg, 0, none⟩ = some (.slice (some ⟨b, off, none⟩) g.length c) := (cell_same (p := ⟨Bg, 0, none⟩) (hst.2 _ (.inl hKg))).trans cgX
    have hll : lst.length ≤ 12 := by have h1 := nodup_le (n := g.length) (rising_nodup (G.rising _ lst hlst)) (fun k hk => G.below _ lst hlst k hk); omega
    have HR := hid hrow
    have HJ := hid (And.intro hes (And.intro hJ (And.intro hst hlst)))
    clear hrow hes hJ hst hlst
    gi_wp2
    gi_loopw [16] (fun t16 wr => ∃ (j : Nat) (es : List { e : Nat × Nat // P e }), t16 = .int .i64 j ∧ j ≤ lst.length ∧ es.map (·.1) = (pre.map (·.1)).flatMap (edgesAt g) ++ (lst.take j).map (fun v => (x.1, v)) ∧ J X.heap.size es wr ∧ Stay K W.heap.size X.heap.size X wr ∧ Stay K W.heap.size X.heap.size V wr ∧ KeepsFrom X.heap.size V wr) (fun t16 _ => lst.length - (intOf t16).toNat)
    case atStart => exact ⟨0, es, rfl, by omega, by simpa using HJ.out.1, HJ.out.2.1, HJ.out.2.2.1, ⟨Below.refl _ _, fun _ _ => rfl⟩, KeepsFrom.refl _ _⟩
    case round =>
      obtain ⟨j, es2, rfl, hj, hes2, hJ2, hst2, hst3, hkf⟩ := hrel
      have HQ := hid (And.intro hes2 (And.intro hJ2 (And.intro hst2 (And.intro hst3 hkf))))
      clear hes2 hJ2 hst2 hst3 hkf
      by_cases hjl : j < lst.length
      · obtain ⟨v, hv⟩ : ∃ v, lst[j]? = some v := ⟨_, List.getElem?_eq_getElem hjl⟩
        have hvm := List.mem_of_getElem? hv
        have hne : nats lst ≠ [] := by intro e; have := congrArg List.length e; rw [nats_length] at this; simp only [List.length_nil] at this; omega
        have BR : Below w0.heap.size w0 wr := (BW.trans (BWX.mono BW.size)).trans (HQ.out.2.2.1.whole hK0)
        obtain ⟨tb, toff, rfl, htb, hcs⟩ := HR.out.at hne
        obtain ⟨v', hcx, hv'⟩ := hcs wr BR j (by rw [nats_length]; exact hjl)
        obtain rfl : v' = (v : Int) := by have := hv'.out; simp [nats, hv] at this; exact this.symm
        have yR : wr.cell? ⟨W.heap.size, 0, none⟩ = some (.func (.yield l) #[] #[]) := (cell_same (p := ⟨W.heap.size, 0, none⟩) (HQ.out.2.2.1.2 W.heap.size (.inr ⟨Nat.le_refl _, by omega⟩))).trans yX.cell
        have hel : es2.length < 144 := by
          have h1 := congrArg List.length HQ.out.1
          have h2 := edges_few G (pre.map (·.1))
          simp only [List.length_map, List.length_append, List.length_take] at h1 h2
          omega
        have hPv : P (x.1, v) := H.out.2 x.1 x.2 lst HJ.out.2.2.2 v hvm
        obtain ⟨fn, tm, asg, bd, hy, hR⟩ := HY.out X.heap.size es2 ⟨(x.1, v), hPv⟩ wr (by have := BWX.size; omega) HQ.out.2.1 hel
        dsimp only at hy
        have HE : Hid (lst.take (j + 1) = lst.take j ++ [v]) := by show _ = _; rw [List.take_add_one, hv]; rfl
        have HRR := hid hR
        clear hv' hcs hne hv hvm hel hR
        gi_wp2
        refine (RoundIn.deep HRR.out).mono ?_
        rintro e Z ⟨hkz, (⟨rfl, hjz, hsz⟩ | ⟨rfl, hjz⟩)⟩
        · have HZ := hid (And.intro hkz (And.intro hjz hsz))
          clear hkz hjz hsz
          gi_wp2
          go_roundw
          case rel =>
            refine ⟨j + 1, es2 ++ [⟨(x.1, v), hPv⟩], by go_num, by omega, ?_, HZ.out.2.1, HQ.out.2.2.1.trans (HZ.out.2.2), HQ.out.2.2.2.1.trans HZ.out.2.2, HQ.out.2.2.2.2.trans ⟨HZ.out.1.size, fun k o hk => HZ.out.1.same k o (by have := BWX.size; omega)⟩⟩
            rw [HE.out, List.map_append, HQ.out.1]
            simp
          case measure => simp [intOf]; omega
        · have HZ := hid (And.intro hkz hjz)
          clear hkz hjz
          gi_wp2
          refine ⟨HQ.out.2.2.2.2.trans ⟨HZ.out.1.size, fun k o hk => HZ.out.1.same k o (by have := BWX.size; omega)⟩, rfl, es2 ++ [⟨(x.1, v), hPv⟩], ?_, HZ.out.2⟩
          have e1 : (es2 ++ [(⟨(x.1, v), hPv⟩ : { e : Nat × Nat // P e })]).map (·.1) = (pre.map (·.1)).flatMap (edgesAt g) ++ (lst.take (j + 1)).map (fun v => (x.1, v)) := by
            rw [HE.out, List.map_append, HQ.out.1]
            simp
          have e2 : ((pre ++ [x]).map (·.1)).flatMap (edgesAt g) = (pre.map (·.1)).flatMap (edgesAt g) ++ lst.map (fun v => (x.1, v)) := by simp [edgesAt, HJ.out.2.2.2]
          rw [e1, e2, List.prefix_append_right_inj]
          exact (List.take_prefix _ _).map _
      · obtain rfl : j = lst.length := by omega
        gi_wp2
        refine ⟨HQ.out.2.2.2.2, HQ.out.2.2.2.1, ⟨es2, ?_, HQ.out.2.1⟩, HQ.out.2.2.1⟩
        rw [HQ.out.1, List.take_of_length_le (Nat.le_refl _)]
        simp [edgesAt, HJ.out.2.2.2]
  case done =>
    rintro D xs V hD rfl ⟨⟨es, hes, hJ⟩, hst⟩ hK
    gi_wp2
    refine ⟨by simp, .inl ⟨_, _, rfl, run_takeDeferred hK, ?_⟩⟩
    refine ⟨_, results_none rfl _ _ _, ⟨_, rfl⟩, .inl ⟨es, X.heap.size, ?_, ?_⟩⟩
    · rw [hes, List.attach_map_subtype_val]; rfl
    · exact (HP.out.2.1 _).putObj _ hJ (by have := BWX.size; omega) hK rfl
  case stop =>
    rintro D cd pre V hD hpre ⟨rfl, es, hes, hJ⟩ hK
    gi_wp2
    refine ⟨by simp, .inl ⟨_, _, rfl, run_takeDeferred hK, ?_⟩⟩
    refine ⟨_, results_none rfl _ _ _, ⟨_, rfl⟩, .inr ⟨es, ?_, ?_⟩⟩
    · obtain ⟨rest, hrest⟩ := hpre
      have h1 : setL (order7 g) = pre.map (·.1) ++ rest.map (·.1) := by rw [← List.map_append, hrest]; exact (List.attach_map_subtype_val _).symm
      show es.map (·.1) <+: edgesL g
      unfold edgesL
      rw [h1, List.flatMap_append]
      exact hes.trans (List.prefix_append _ _)
    · exact HP.out.2.2.putObj _ hJ (by have := BWX.size; omega) hK rfl
end

section
open Go Go.RowKit Go.Shelf
attribute [local go_sem] Oper.semAt_some
set_option linter.unusedVariables false
set_option maxRecDepth 100000

set_option maxHeartbeats 1000000 in
theorem edgesIn_any (a : Option Addr) (n c : Nat) (w : World) :
    Calls Tryz.prog 133 #[.agg #[.slice a n c]] w fun e w' => e = .returned (.func (.func 143) #[] #[.pointer (some ⟨w.heap.size, 0, none⟩)]) ∧ w' = w.alloc (.cells #[.slice a n c] 43) := by
  refine (callsIn_wide (n := 3)).1 ?_
  refine callsIn_of_wp Tryz.func133 rfl trivial ?_ rfl
  simp only [Tryz.ntmps133, List.size_toArray, List.length_cons, List.length_nil, Nat.reduceAdd, Nat.reduceSub, Array.replicate_succ, Array.replicate_zero, List.push_toArray, List.append_toArray, List.nil_append, List.cons_append]
  gi_wp2
  go_ret
  exact ⟨rfl, rfl⟩
/-- the edges lead from nodes that are come to -/
theorem edges_lead {g : List (List Nat)} (G : Gr g) : ∀ u ∈ setL (order7 g), ∀ l, g[u]? = some l → ∀ v ∈ l, Lead g u v := fun u hu l hl v hv => ⟨(order_come G u).1 ((setL_mem _ _).1 hu), l, hl, hv⟩
theorem edges_all {g : List (List Nat)} (G : Gr g) (u v : Nat) : (u, v) ∈ edgesL g ↔ Lead g u v := by
  unfold edgesL edgesAt
  rw [List.mem_flatMap]
  constructor
  · rintro ⟨x, hx, hv⟩
    obtain ⟨y, hy, e⟩ := List.mem_map.1 hv
    cases e
    cases hg : g[u]? with
    | none => rw [hg] at hy; cases hy
    | some l => rw [hg] at hy; exact edges_lead G u hx l hg v hy
  · rintro ⟨hu, l, hl, hv⟩
    exact ⟨u, (setL_mem _ _).2 ((order_come G u).2 hu), List.mem_map.2 ⟨v, by rw [hl]; exact hv, rfl⟩⟩
end

section
open Go Go.RowKit Go.Shelf
set_option linter.unusedVariables false

theorem info58 : (Tryz.prog.info? 112).map (fun i => (i.zero, i.size, i.bytes)) = some (some (.agg #[.slice none 0 0]), 1, 24) := by kernel_rfl
theorem Sep.calm {w w' : World} {B : Nat} {l : List OR} (h : Sep w B l) {row : Option Nat} (hg : w.grownBy w' row) (hr : ∀ r, row = some r → ∃ o : Obj, w.heap[r]? = some o ∧ o.isCells = false) : Sep w' B l := by
  refine ⟨fun x hx => ?_, h.2⟩
  have hrow := h.1 x hx
  refine World.ownsRow.kept hrow hg ?_
  rcases hrow.2 with ⟨e, _⟩ | ⟨g, cap, cur, e, _, hgb, _⟩
  · rw [e]; exact .inl rfl
  · refine .inr fun e2 => ?_
    rw [e] at e2
    obtain ⟨o, ho, hno⟩ := hr g e2.symm
    rw [hgb] at ho
    cases ho
    simp [Obj.isCells] at hno
end

section
open Go Go.RowKit Go.Shelf
attribute [local go_sem] Oper.semAt_some
set_option linter.unusedVariables false
set_option linter.unusedSimpArgs false
set_option maxRecDepth 100000

/-- rows of sets: who has come so far -/
def Came (n : Nat) (es : List (Nat × Nat)) (P : List (List Nat)) : Prop := P.length = n ∧ ∀ (k : Nat) r, P[k]? = some r → r.Pairwise (· < ·) ∧ ∀ x, x ∈ r ↔ (x, k) ∈ es
theorem Came.begin (n : Nat) : Came n [] (List.replicate n []) := by
  refine ⟨by simp, fun k r hr => ?_⟩
  obtain rfl : r = [] := List.eq_of_mem_replicate (List.mem_of_getElem? hr)
  exact ⟨List.Pairwise.nil, fun x => by simp⟩
theorem Came.add {n : Nat} {es : List (Nat × Nat)} {P : List (List Nat)} (h : Came n es P) {u v : Nat} {r : List Nat} (hr : P[v]? = some r) : Came n (es ++ [(u, v)]) (P.set v (putL r u)) := by
  have hv := (List.getElem?_eq_some_iff.1 hr).1
  refine ⟨by simp [h.1], fun k s hs => ?_⟩
  by_cases e : k = v
  · subst e
    rw [List.getElem?_set_self hv] at hs
    obtain rfl := Option.some.inj hs
    refine ⟨putL_rising (h.2 k r hr).1 u, fun x => ?_⟩
    rw [putL_mem, (h.2 k r hr).2 x]
    simp
    exact or_comm
  · rw [List.getElem?_set_ne (fun h => e h.symm)] at hs
    refine ⟨(h.2 k s hs).1, fun x => ?_⟩
    rw [(h.2 k s hs).2 x]
    simp [e]
/-- rows of sets, owned -/
def OwnS (w : World) (B : Nat) (v : Value) (ys : List LV) : Prop := Sep w B (⟨112, 1, v, ys.length, vals ys⟩ :: ys.map rowL)
theorem made_sets (n : Nat) : (madeCells #[Value.slice none 0 0] (n * 1)).toList = vals (noLists n) := by rw [Nat.mul_one]; exact made_lists n
theorem ownS_start {w : World} {B n g cap : Nat} (h : w.ownsRow B 112 1 (.slice (some ⟨g, 0, none⟩) n cap) n (vals (noLists n))) : OwnS w B (.slice (some ⟨g, 0, none⟩) n cap) (noLists n) := by
  refine ⟨fun x hx => ?_, List.pairwise_cons.2 ⟨fun x hx => ?_, ?_⟩⟩
  · rcases List.mem_cons.1 hx with rfl | hx
    · show World.ownsRow _ _ _ _ _ _ _
      rw [show (noLists n).length = n by simp [noLists]]
      exact h
    · obtain ⟨y, hy, rfl⟩ := List.mem_map.1 hx
      obtain rfl : y = ⟨[], .slice none 0 0⟩ := List.eq_of_mem_replicate hy
      exact World.ownsRow_nil _ _ _ _
  · obtain ⟨y, hy, rfl⟩ := List.mem_map.1 hx
    obtain rfl : y = ⟨[], .slice none 0 0⟩ := List.eq_of_mem_replicate hy
    right; intro he; cases he
  · rw [List.pairwise_map]
    refine List.Pairwise.imp_of_mem (R := fun _ _ => True) (fun {a b} ha hb _ => ?_) (List.pairwise_of_forall (fun _ _ => trivial))
    obtain rfl : a = ⟨[], .slice none 0 0⟩ := List.eq_of_mem_replicate ha
    exact .inl rfl
/-- one row ahead of the others -/
theorem ownS_front {w : World} {B : Nat} {v : Value} {ys : List LV} {j : Nat} {y : LV} (hy : ys[j]? = some y) (h : OwnS w B v ys) : Sep w B (⟨112, 1, v, ys.length, vals ys⟩ :: rowL y :: ((ys.take j).map rowL ++ (ys.drop (j + 1)).map rowL)) := by
  have e : ys.map rowL = (ys.take j).map rowL ++ rowL y :: (ys.drop (j + 1)).map rowL := by
    conv => lhs; rw [splitL hy]
    simp
  have hp : (⟨112, 1, v, ys.length, vals ys⟩ :: ys.map rowL : List OR).Perm (⟨112, 1, v, ys.length, vals ys⟩ :: rowL y :: ((ys.take j).map rowL ++ (ys.drop (j + 1)).map rowL)) := by
    rw [e]
    exact List.Perm.cons _ List.perm_middle
  exact ⟨fun x hx => h.1 x (hp.mem_iff.2 hx), hp.pairwise h.2 (fun {a b} hab => apt.symm hab)⟩
theorem ownS_back {w : World} {B : Nat} {v : Value} {ys : List LV} {j : Nat} {y y' : LV} (hy : ys[j]? = some y) (h : Sep w B (⟨112, 1, v, ys.length, (vals ys).set j y'.v⟩ :: rowL y' :: ((ys.take j).map rowL ++ (ys.drop (j + 1)).map rowL))) : OwnS w B v (ys.set j y') := by
  have hj := (List.getElem?_eq_some_iff.1 hy).1
  have e : (ys.set j y').map rowL = (ys.take j).map rowL ++ rowL y' :: (ys.drop (j + 1)).map rowL := by
    rw [List.set_eq_take_append_cons_drop, if_pos hj]
    simp
  have ev : vals (ys.set j y') = (vals ys).set j y'.v := by simp [vals, List.map_set]
  have hp : (⟨112, 1, v, ys.length, (vals ys).set j y'.v⟩ :: rowL y' :: ((ys.take j).map rowL ++ (ys.drop (j + 1)).map rowL) : List OR).Perm (⟨112, 1, v, ys.length, (vals ys).set j y'.v⟩ :: (ys.set j y').map rowL) := by
    rw [e]
    exact List.Perm.cons _ List.perm_middle.symm
  unfold OwnS
  rw [List.length_set, ev]
  exact ⟨fun x hx => h.1 x (hp.mem_iff.2 hx), hp.pairwise h.2 (fun {a b} hab => apt.symm hab)⟩
theorem wpListIn_made {F : Fence} {nF : Nat} {P : Program} (w : World) {ops : Array Oper} {rest : List Oper} {o : Oper} {a : Act} {Q : Exit → Act → World → Prop}
    (hg : o.guard = none) (l : Operand) (t : TypeId) (hop : o.op = Op.makeSlice t l l)
    (base : Nat) (e : TypeId) (i : TypeInfo) (z : Value) (size : Nat) (h1 : P.underlying t = some (.slice e)) (h2 : P.info? e = some i) (h3 : i.zero = some z) (h4 : i.size = size)
    (n : Nat) (hl : a.eval l = .int .i64 (n : Int)) (b2 : i.bytes * n ≤ 281474976710656) (b3 : n ≤ maxLen) (b4 : base ≤ w.heap.size)
    (hK : ∀ w', w'.ownsRow base e size (.slice (some ⟨w.heap.size, 0, none⟩) n n) n (madeCells z.cells (n * size)).toList → w.grownBy w' none → wpListIn F nF P ops Q rest (a.put o.dst (.slice (some ⟨w.heap.size, 0, none⟩) n n)) w') :
    wpListIn F nF P ops Q (o :: rest) a w := by
  refine wpListIn_plain hg fun K hK' => ?_
  obtain ⟨w', hrun, r1, r2⟩ := run_make_full (P := P) w base t e i z size h1 h2 h3 h4 .i64 .i64 n b2 b3 b4
  refine ⟨by simp [Oper.about, hop], ?_⟩
  rw [Oper.semAt_plain F _ _ (by rw [hop]; intro c hc'; cases hc')]
  simp [execOp, hop, hl, hrun, Result.andThen]
  exact hK' _ _ (hK w' r1 r2)
theorem own_kind {w : World} {B e size n g : Nat} {v : Value} {xs : List Value} (h : w.ownsRow B e size v n xs) (hv : v.ownBlock = some g) : ∃ c fz, w.heap[g]? = some (.cells c e fz) := by
  rcases h.2 with ⟨e1, _⟩ | ⟨g', cap, cur, e1, _, hgb, _⟩
  · rw [e1] at hv; cases hv
  · rw [e1] at hv; cases hv; exact ⟨_, _, hgb⟩
set_option maxHeartbeats 4000000 in
theorem leaders_any {g : List (List Nat)} (G : Gr g) (a : Option Addr) (c : Nat) (w : World) (h : GRow w a g) :
    Calls Tryz.prog 113 #[.agg #[.slice a g.length c]] w fun e w' => ∃ va vc ys P, e = .returned (.slice va g.length vc) ∧ OwnS w' w.heap.size (.slice va g.length vc) ys ∧ lists ys = natsL P ∧ Came g.length (edgesL g) P ∧ Below w.heap.size w w' := by
  obtain ⟨i0, hi, hz0, hz1, hz2⟩ := info_parts info58
  have hgm := G.most
  have H := hid h
  clear h
  refine (callsIn_wide (n := 8)).1 ?_
  refine callsIn_of_wp_marks Tryz.func113 rfl trivial ?_ rfl
  simp only [Tryz.ntmps113, List.size_toArray, List.length_cons, List.length_nil, Nat.reduceAdd, Nat.reduceSub, Array.replicate_succ, Array.replicate_zero, List.push_toArray, List.append_toArray, List.nil_append, List.cons_append]
  have b0 := below1 w (.cells #[.slice a g.length c] 43)
  have z0 : (w.alloc (.cells #[.slice a g.length c] 43)).heap.size = w.heap.size + 1 := by simp
  have c0 : (w.alloc (.cells #[.slice a g.length c] 43)).cell? ⟨w.heap.size, 0, none⟩ = some (.slice a g.length c) := by simp [go_sem]
  gi_wp2_with (first | (gi_at_make; refine wpListIn_made _ rfl _ 109 rfl (w.heap.size + 1) 112 i0 (.agg #[.slice none 0 0]) 1 Tryz.underlying109 hi hz0 hz1 g.length rfl (by rw [hz2]; omega) (by unfold maxLen; omega) (by simp) ?_; intro w1 hown1 hgrow1; have hB1 : Below (w.heap.size + 1) (w.alloc (.cells #[.slice a g.length c] 43)) w1 := (Below.refl _ _).grown hgrow1 (by omega) (fun k hk => by cases hk); have c1 : ∀ o, (w1.alloc o).cell? ⟨w.heap.size, 0, none⟩ = some (.slice a g.length c) := fun o => cell_below (by rw [hB1.cell (p := ⟨w.heap.size, 0, none⟩) (by show w.heap.size < _; omega)]; exact c0) (below1 w1 o)) | (refine ⟨trivial, ?_⟩; gi_at_call 133; refine (callsIn_wide.2 (edgesIn_any _ _ _ _)).mono ?_; rintro e w' ⟨rfl, rfl⟩))
  have hr1 : w.heap.size + 1 < w1.heap.size := (hown1.lt (w.heap.size + 1) (by rw [z0]; rfl)).2
  have BW1 : Below w.heap.size w w1 := b0.trans (hB1.mono (by omega))
  have HO1 : Hid (OwnS w1 (w.heap.size + 1) (.slice (some ⟨w.heap.size + 1, 0, none⟩) g.length g.length) (noLists g.length)) := by
    refine ownS_start ?_
    rw [z0] at hown1
    rw [← made_sets]
    exact hown1
  obtain ⟨X, hX⟩ : ∃ X, ((w1.alloc (Obj.cells #[Value.slice (some { block := w.heap.size + 1, off := 0 }) g.length g.length] 109)).alloc (Obj.cells #[Value.slice a g.length c] 43)) = X := ⟨_, rfl⟩
  have zX : X.heap.size = w1.heap.size + 2 := by rw [← hX]; simp
  have bX : Below w1.heap.size w1 X := by rw [← hX]; exact below2 _ _ _
  have xb : Boxed X w1.heap.size 109 (.slice (some ⟨w.heap.size + 1, 0, none⟩) g.length g.length) := by rw [← hX]; exact (Boxed.new w1 109 _).alloc _
  have xg : X.cell? ⟨w1.heap.size + 1, 0, none⟩ = some (.slice a g.length c) := by
    rw [← hX]
    have := Boxed.new (w1.alloc (Obj.cells #[Value.slice (some { block := w.heap.size + 1, off := 0 }) g.length g.length] 109)) 43 (.slice a g.length c)
    rw [World.size_alloc] at this
    exact this.cell
  rw [hX]
  have BX : Below w.heap.size w X := BW1.trans (bX.mono (by omega))
  have HOX := hid (Sep.below HO1.out bX)
  clear hX hown1 hgrow1 hB1 c1 HO1 c0 z0 b0
  refine range_own rfl (by omega) (gf := 143) (lb := #[.pointer (some ⟨w1.heap.size + 1, 0, none⟩)]) rfl trivial (enters_of Tryz.func143 (by kernel_rfl) rfl)
    (edges_own G a c (fun e => Lead g e.1 e.2) (edges_lead G) (order_lt G) (dfs_len G).1 _ (by omega) (w1.heap.size + 1) (fun k => k < w.heap.size ∨ k = w1.heap.size + 1) w X H.out BX (fun k hk => .inl hk) (.inr rfl) (fun k hk => by omega) xg) (fun k hk => by omega) (Below.refl _ _) (fun _ => rfl)
    (fun T pre V => ∃ ys P, OwnS V (w.heap.size + 1) (.slice (some ⟨w.heap.size + 1, 0, none⟩) g.length g.length) ys ∧ lists ys = natsL P ∧ Came g.length (pre.map (·.1)) P ∧ (∀ y ∈ ys, ∀ b, y.v.ownBlock = some b → T ≤ b) ∧ Boxed V w1.heap.size 109 (.slice (some ⟨w.heap.size + 1, 0, none⟩) g.length g.length) ∧ Below w.heap.size w V ∧ T ≤ V.heap.size)
    (fun _ _ _ => False)
    (fun T s A B row hs hg hr => by
      obtain ⟨ys, P, h1, h2, h3, h4, h5, h6, h7⟩ := hs
      exact ⟨ys, P, Sep.calm h1 hg (fun r e => (hr r e).2), h2, h3, h4, h5.kept hg (fun e => by have := (hr _ e.symm).1; omega), h6.grown hg h6.size (fun k e => by have := (hr _ e).1; have := BX.size; omega), Nat.le_trans h7 hg.size⟩)
    (fun _ _ _ _ _ hs _ _ => hs)
    (fun W' hg => ⟨noLists g.length, List.replicate g.length [], Sep.calm HOX.out hg (fun r e => by cases e), lists_noLists _, Came.begin _, fun y hy b hb => (by obtain rfl : y = ⟨[], .slice none 0 0⟩ := List.eq_of_mem_replicate hy; cases hb), xb.kept hg (by simp), BX.grown hg BX.size (fun k e => by cases e), Nat.le_refl _⟩)
    (fun x => { tmps := #[Value.agg #[Value.slice a g.length c], Value.pointer (some { block := w.heap.size, off := 0 }), Value.slice none 0 0, Value.pointer (some { block := w1.heap.size, off := 0 }), .int .i64 (x.1.1 : Int), .int .i64 (x.1.2 : Int), Value.pointer (some { block := w.heap.size, off := 0 }), Value.slice a g.length c, Value.int IntKind.i64 ↑g.length, Value.slice (some { block := w.heap.size + 1, off := 0 }) g.length g.length, Value.agg #[Value.slice a g.length c], Value.func (Fn.func 143) #[] #[Value.pointer (some { block := w1.heap.size + 1, off := 0 })], .int .i64 (x.1.1 : Int), .int .i64 (x.1.2 : Int), undef, undef, undef, undef, undef, undef], defers := [] }) ?assign ?body ?done ?stop
  case assign =>
    intro l x W K hK
    gi_wp2
    exact hK
  case body =>
    rintro l T pre x V hT ⟨ys, P, h1, h2, h3, h4, h5, h6, h7⟩ hlen
    have hto : x.1.2 < g.length := by obtain ⟨_, lst, hl, hv⟩ := x.2; exact G.below _ lst hl _ hv
    have hyl : ys.length = g.length := by have := congrArg List.length h2; rw [lists_length] at this; simp [natsL, h3.1] at this; exact this
    obtain ⟨r, hr⟩ : ∃ r, P[x.1.2]? = some r := ⟨_, List.getElem?_eq_getElem (by rw [h3.1]; exact hto)⟩
    obtain ⟨sv, hsv⟩ := own_of_lists h2 hr
    have hrs := (h3.2 _ r hr).1
    have hrl : r.length ≤ 1000 := by
      have h8 := nodup_le (n := g.length) (rising_nodup hrs) (fun k hk => by
        obtain ⟨y, hy, e⟩ := List.mem_map.1 (((h3.2 _ r hr).2 k).1 hk)
        have hy2 := y.2.1
        rw [e] at hy2
        exact RchW.lt G hy2)
      omega
    have hf := ownS_front hsv h1
    rw [hyl] at hf
    have HA := hid (add_any 112 1 (w.heap.size + 1) g.length g.length x.1.2 (vals ys) sv r x.1.1 _ (w.heap.size + 1) V (by simpa [rowL, nats_length] using hf) (by simp [vals, hsv]) hrs hrl (by have := h6.size; omega))
    have c5 := h5.cell
    have HQ := hid (And.intro h1 (And.intro h2 (And.intro h3 (And.intro h4 (And.intro h5 (And.intro h6 (And.intro hr (And.intro hsv hyl))))))))
    clear h1 h2 h3 h4 h5 h6 hr hsv hf hyl
    gi_wp2_with (refine ⟨trivial, ?_⟩; gi_at_call 116; refine (CallsIn.inRound l (callsIn_wide.2 HA.out)).mono ?_; rintro e Z ⟨rfl, sv', hs', honly, hnew⟩)
    obtain ⟨h1, h2, h3, h4, h5, h6, hr, hsv, hyl⟩ := HQ.out
    have hsm := List.mem_of_getElem? hsv
    have far : ∀ k, sv.ownBlock = some k → T ≤ k := fun k hk => h4 _ hsm k hk
    have kind : ∀ k o, V.heap[k]? = some o → o.isCells = false → ¬ (k = w.heap.size + 1 ∨ sv.ownBlock = some k) := by
      rintro k o hk ho (e | e)
      · obtain ⟨c', fz, hc⟩ := own_kind (h1.1 ⟨112, 1, .slice (some ⟨w.heap.size + 1, 0, none⟩) g.length g.length, ys.length, vals ys⟩ (by simp)) (show (Value.slice (some ⟨w.heap.size + 1, 0, none⟩) g.length g.length).ownBlock = some k by rw [e]; rfl)
        rw [hc] at hk; cases hk; simp [Obj.isCells] at ho
      · obtain ⟨c', fz, hc⟩ := own_kind (h1.1 (rowL ⟨nats r, sv⟩) (List.mem_cons_of_mem _ (List.mem_map_of_mem hsm))) (show (rowL ⟨nats r, sv⟩).v.ownBlock = some k from e)
        rw [hc] at hk; cases hk; simp [Obj.isCells] at ho
    have hzV := h6.size
    have hbX := BX.size
    refine ⟨⟨honly.size, fun k o hk ho => (honly.block k (Array.getElem?_eq_some_iff.1 hk).1 (kind k o hk ho)).trans hk⟩, ⟨⟨honly.os, honly.tape, honly.output, honly.size, fun k hk => absurd hk (by omega)⟩, fun k hk => honly.block k (by omega) ?_⟩, ys.set x.1.2 ⟨nats (putL r x.1.1), sv'⟩, P.set x.1.2 (putL r x.1.1), ownS_back hsv ?_, ?_, ?_, ?_, ?_, ?_, Nat.le_trans h7 honly.size⟩
    · rintro (e | e)
      · omega
      · have := far k e; omega
    · rw [hyl]
      rw [List.map_take, List.map_drop]
      show Sep Z _ (_ :: ⟨3, 1, sv', (nats (putL r x.1.1)).length, ints (nats (putL r x.1.1))⟩ :: _)
      rw [nats_length]
      exact hs'
    · rw [lists_set, h2, natsL_set]
    · rw [List.map_append]
      exact h3.add hr
    · intro y hy b hb
      rcases List.mem_or_eq_of_mem_set hy with hy | rfl
      · exact h4 y hy b hb
      · rcases hnew b hb with h | h
        · exact far b h
        · omega
    · refine (honly.block w1.heap.size (by omega) ?_).trans h5
      rintro (e | e)
      · omega
      · have := far _ e; omega
    · refine honly.below h6 (fun k hk => ?_)
      rcases hk with e | e
      · omega
      · have := far k e; omega
  case done =>
    rintro D T xs V hD hS ⟨ys, P, h1, h2, h3, h4, h5, h6, h7⟩ hK
    have c5 := h5.cell
    gi_wp2
    refine ⟨by simp, .inl ⟨_, _, rfl, run_takeDeferred hK, ?_⟩⟩
    refine ⟨_, results_tmp rfl _ _ _, _, _, ys, P, rfl, ?_, h2, by rw [hS] at h3; exact h3, ?_⟩
    · exact Sep.mono (Sep.calm h1 (grownBy_putObj' _ D _) (fun r e => by cases e; exact ⟨_, hK, rfl⟩)) (by omega)
    · exact h6.trans (belowK_b (w := w) (Nat.le_refl _) _ D _ _ (by have := BX.size; omega) hK rfl rfl)
  case stop =>
    rintro D cd pre V _ _ h _
    exact h.elim
end

section
open Go Go.RowKit Go.Shelf
set_option linter.unusedVariables false
set_option maxRecDepth 100000

/-- ranges over functions that are over have left these among the deferred calls -/
def Marks (n0 : Nat) (ds : List Deferred) (W : World) : Prop := ∃ rs : List Nat, ds = rs.map (fun r => (⟨.collected r, #[]⟩ : Deferred)) ∧ rs.Nodup ∧ ∀ r ∈ rs, n0 ≤ r ∧ W.heap[r]? = some (.deferred (some []))
theorem Marks.nil (n0 : Nat) (W : World) : Marks n0 [] W := ⟨[], rfl, List.nodup_nil, by simp⟩
theorem Marks.others {n0 : Nat} {ds : List Deferred} {W W' : World} (h : Marks n0 ds W) (k : KeepsOthers W W') : Marks n0 ds W' := by
  obtain ⟨rs, h1, h2, h3⟩ := h
  exact ⟨rs, h1, h2, fun r hr => ⟨(h3 r hr).1, k.same r _ (h3 r hr).2 rfl⟩⟩
theorem Marks.only {n0 nb : Nat} {ds : List Deferred} {X W : World} (h : Marks n0 ds X) (k : Only (fun b => b = nb) X W) (hc : ∀ o, X.heap[nb]? = some o → o.isCells = true) : Marks n0 ds W := by
  obtain ⟨rs, h1, h2, h3⟩ := h
  refine ⟨rs, h1, h2, fun r hr => ⟨(h3 r hr).1, ?_⟩⟩
  have h4 := (h3 r hr).2
  refine (k.block r (Array.getElem?_eq_some_iff.1 h4).1 (fun e => ?_)).trans h4
  subst e
  have := hc _ h4
  simp [Obj.isCells] at this
theorem Marks.more {n0 nb D : Nat} {ds : List Deferred} {X W : World} (h : Marks n0 ds X) (k : Only (fun b => b = nb) X W) (hc : ∀ o, X.heap[nb]? = some o → o.isCells = true) (hX : X.heap.size ≤ D) (hn : n0 ≤ D) (hD : W.heap[D]? = some (.deferred (some []))) : Marks n0 ({ target := .collected D, args := #[] } :: ds) W := by
  have h5 := h
  obtain ⟨rs, h1, h2, h3⟩ := h5
  obtain ⟨rs', h1', _, h3'⟩ := h.only k hc
  refine ⟨D :: rs, by rw [h1]; rfl, List.nodup_cons.2 ⟨fun hm => ?_, h2⟩, fun r hr => ?_⟩
  · have := (Array.getElem?_eq_some_iff.1 (h3 D hm).2).1
    omega
  · rcases List.mem_cons.1 hr with rfl | hr
    · exact ⟨hn, hD⟩
    · refine ⟨(h3 r hr).1, ?_⟩
      have h4 := (h3 r hr).2
      refine (k.block r (Array.getElem?_eq_some_iff.1 h4).1 (fun e => ?_)).trans h4
      subst e
      have := hc _ h4
      simp [Obj.isCells] at this
theorem leaves_marks {F : Fence} {n n0 : Nat} {P : Program} {fn : Func} {tmps : Array Value} {R : Ending → World → Prop} (I : World → Prop)
    (hI : ∀ W W' row, I W → W.grownBy W' row → (∀ r, row = some r → n0 ≤ r ∧ ∃ o : Obj, W.heap[r]? = some o ∧ o.isCells = false) → I W')
    (hend : ∀ W, I W → LeavesInM F n P fn tmps R [] .returning W) {ds : List Deferred} {W : World} (hm : Marks n0 ds W) (h : I W) : LeavesInM F n P fn tmps R ds .returning W := by
  obtain ⟨rs, rfl, hn, hr⟩ := hm
  induction rs generalizing W with
  | nil => exact hend W h
  | cons r rs ih =>
    have h1 := hr r (by simp)
    have h2 := List.nodup_cons.1 hn
    refine ⟨by simp, .inl ⟨r, W.putObj r (.deferred none), rfl, run_takeDeferred h1.2, ?_⟩⟩
    refine ih (hI W _ (some r) h (grownBy_putObj' W r _) (fun q e => by cases e; exact ⟨h1.1, _, h1.2, rfl⟩)) h2.2 (fun q hq => ?_)
    have h3 := hr q (List.mem_cons_of_mem _ hq)
    exact ⟨h3.1, (World.putObj_heap_other (fun e => h2.1 (by rw [← e]; exact hq))).trans h3.2⟩
/-- what a body must come to, where it never panics -/
def calm (Q : Exit → Act → World → Prop) : Exit → Act → World → Prop
  | .panic _, _, _ => False
  | e, a, w => Q e a w
theorem calm_le {Q : Exit → Act → World → Prop} : ∀ e a w, calm Q e a w → Q e a w := by
  intro e a w h
  cases e <;> first | exact h | exact False.elim h
theorem bdr {B : Nat} {a w : World} (h : Below B a w) : Below B a w.drew := ⟨h.os, h.tape, h.output, h.size, h.block⟩
/-- rows of sets, and the box that holds the outer row -/
def OwnB (W : World) (B bx : Nat) (v : Value) (ys : List LV) : Prop := Sep W B (cellOR 109 1 bx [v] :: (⟨112, 1, v, ys.length, vals ys⟩ :: ys.map rowL))
theorem OwnB.box {W : World} {B bx : Nat} {v : Value} {ys : List LV} (h : OwnB W B bx v ys) : W.cell? ⟨bx, 0, none⟩ = some v := Sep.cell h (List.mem_cons_self ..) rfl rfl
theorem OwnB.plain {W : World} {B bx : Nat} {v : Value} {ys : List LV} (h : OwnB W B bx v ys) : OwnS W B v ys := Sep.tail h
theorem OwnB.below {W W' : World} {B bx : Nat} {v : Value} {ys : List LV} (h : OwnB W B bx v ys) (hb : Below W.heap.size W W') : OwnB W' B bx v ys := Sep.below h hb
theorem OwnB.cell {W : World} {B bx s n c : Nat} {ys : List LV} (h : OwnB W B bx (.slice (some ⟨s, 0, none⟩) n c) ys) {j : Nat} {y : LV} (hy : ys[j]? = some y) : W.cell? ⟨s, j, none⟩ = some y.v := Sep.cell h (x := ⟨112, 1, .slice (some ⟨s, 0, none⟩) n c, ys.length, vals ys⟩) (by simp) rfl (by simp [vals, hy])
theorem OwnB.frz {W : World} {B bx s n c : Nat} {ys : List LV} (h : OwnB W B bx (.slice (some ⟨s, 0, none⟩) n c) ys) (j : Nat) : W.frozen? ⟨s, j, none⟩ = false := Sep.frozen h (x := ⟨112, 1, .slice (some ⟨s, 0, none⟩) n c, ys.length, vals ys⟩) (by simp) rfl j
theorem OwnB.row {W : World} {B bx : Nat} {v : Value} {ys : List LV} (h : OwnB W B bx v ys) {j : Nat} {y : LV} (hy : ys[j]? = some y) : W.ownsRow B 3 1 y.v y.r.length (ints y.r) := Sep.get h (x := rowL y) (List.mem_cons_of_mem _ (List.mem_cons_of_mem _ (List.mem_map_of_mem (List.mem_of_getElem? hy))))
/-- one set of the row put anew -/
theorem OwnB.put {W : World} {B bx s n c : Nat} {ys : List LV} (h : OwnB W B bx (.slice (some ⟨s, 0, none⟩) n c) ys) {j : Nat} {y y' : LV} (hn : ys.length = n) (hy : ys[j]? = some y) (hs : Sep W B (rowL y' :: (cellOR 109 1 bx [.slice (some ⟨s, 0, none⟩) n c] :: (⟨112, 1, .slice (some ⟨s, 0, none⟩) n c, ys.length, vals ys⟩ :: ys.map rowL)))) : OwnB (W.setCell ⟨s, j, none⟩ y'.v) B bx (.slice (some ⟨s, 0, none⟩) n c) (ys.set j y') := by
  subst hn
  have h1 := Sep.store [rowL y', cellOR 109 1 bx [.slice (some ⟨s, 0, none⟩) ys.length c]] (e := 112) (size := 1) (g := s) (xs := vals ys) (l2 := ys.map rowL) hs j y'.v
  have hj := (List.getElem?_eq_some_iff.1 hy).1
  have e1 : (ys.set j y').map rowL = (ys.take j).map rowL ++ rowL y' :: (ys.drop (j + 1)).map rowL := by
    rw [List.set_eq_take_append_cons_drop, if_pos hj]
    simp
  have e2 : ys.map rowL = (ys.take j).map rowL ++ rowL y :: (ys.drop (j + 1)).map rowL := by
    conv => lhs; rw [splitL hy]
    simp
  have ev : vals (ys.set j y') = (vals ys).set j y'.v := by simp [vals, List.map_set]
  unfold OwnB
  rw [List.length_set, ev, e1]
  rw [e2] at h1
  have hp : ([rowL y', cellOR 109 1 bx [.slice (some ⟨s, 0, none⟩) ys.length c]] ++ ⟨112, 1, .slice (some ⟨s, 0, none⟩) ys.length c, ys.length, (vals ys).set j y'.v⟩ :: ((ys.take j).map rowL ++ rowL y :: (ys.drop (j + 1)).map rowL) : List OR).Perm (rowL y :: (cellOR 109 1 bx [.slice (some ⟨s, 0, none⟩) ys.length c] :: ⟨112, 1, .slice (some ⟨s, 0, none⟩) ys.length c, ys.length, (vals ys).set j y'.v⟩ :: ((ys.take j).map rowL ++ rowL y' :: (ys.drop (j + 1)).map rowL))) := by
    simp only [List.cons_append, List.nil_append]
    refine List.Perm.trans (List.Perm.cons _ (List.Perm.cons _ (List.Perm.cons _ List.perm_middle))) ?_
    refine List.Perm.trans ?_ (List.Perm.cons _ (List.Perm.cons _ (List.Perm.cons _ List.perm_middle.symm)))
    exact ((List.perm_middle (l₁ := [_, _])).cons _).trans ((List.Perm.swap _ _ _).trans ((List.perm_middle (l₁ := [_, _])).symm.cons _))
  have h2 : Sep (W.setCell ⟨s, j, none⟩ y'.v) B (rowL y :: (cellOR 109 1 bx [.slice (some ⟨s, 0, none⟩) ys.length c] :: ⟨112, 1, .slice (some ⟨s, 0, none⟩) ys.length c, ys.length, (vals ys).set j y'.v⟩ :: ((ys.take j).map rowL ++ rowL y' :: (ys.drop (j + 1)).map rowL))) := ⟨fun x hx => h1.1 x (hp.mem_iff.2 hx), hp.pairwise h1.2 (fun {a b} hab => apt.symm hab)⟩
  exact Sep.tail h2
end

section
open Go Go.RowKit Go.Shelf
set_option linter.unusedVariables false
set_option maxRecDepth 100000

theorem OwnB.fresh {W W' : World} {B bx s n c : Nat} {ys : List LV} (h : OwnB W B bx (.slice (some ⟨s, 0, none⟩) n c) ys) (hb : Below W.heap.size W W') (hB : B ≤ W.heap.size) (hn : ys.length = n) {j : Nat} {y : LV} (hy : ys[j]? = some y) {v : Value} {r : List Nat} (ho : W'.ownsRow W.heap.size 3 1 v r.length (ints (nats r))) : OwnB (W'.setCell ⟨s, j, none⟩ v) B bx (.slice (some ⟨s, 0, none⟩) n c) (ys.set j ⟨nats r, v⟩) := by
  refine OwnB.put (y' := ⟨nats r, v⟩) (h.below hb) hn hy (Sep.add h hb _ ?_ (fun k hk => (ho.lt k hk).1))
  show World.ownsRow _ _ _ _ _ _ _
  simp only [rowL, nats_length]
  exact owns_mono ho hB
theorem lists_len {ys : List LV} {P : List (List Nat)} (h : lists ys = natsL P) : ys.length = P.length := by
  have := congrArg List.length h
  rw [lists_length] at this
  simpa [natsL] using this
/-- all nodes are taken for dominators of the first so many -/
def Begun (g : List (List Nat)) (q : Nat) (P : List (List Nat)) : Prop := P.length = g.length ∧ ∀ (k : Nat) r, P[k]? = some r → r = if k ∈ (order7 g).take q then setL (order7 g) else []
theorem Begun.begin (g : List (List Nat)) : Begun g 0 (List.replicate g.length []) := by
  refine ⟨by simp, fun k r hr => ?_⟩
  rw [List.take_zero, if_neg (by simp)]
  exact List.eq_of_mem_replicate (List.mem_of_getElem? hr)
theorem Begun.step {g : List (List Nat)} {q x : Nat} {P : List (List Nat)} (h : Begun g q P) (hx : (order7 g)[q]? = some x) (hl : x < g.length) : Begun g (q + 1) (P.set x (setL (order7 g))) := by
  have e1 : (order7 g).take (q + 1) = (order7 g).take q ++ [x] := by rw [List.take_add_one, hx]; rfl
  refine ⟨by simp [h.1], fun k r hr => ?_⟩
  rw [e1]
  by_cases e : k = x
  · subst e
    rw [List.getElem?_set_self (by rw [h.1]; exact hl)] at hr
    rw [if_pos (by simp)]
    exact (Option.some.inj hr).symm
  · rw [List.getElem?_set_ne (fun h => e h.symm)] at hr
    rw [h.2 k r hr]
    simp [e]
theorem Begun.ub {g : List (List Nat)} (G : Gr g) {P : List (List Nat)} (h : Begun g (order7 g).length P) : UB g (P.set 0 [0]) := by
  have hp := G.pos
  have c0 : Come g 0 := .start (by omega)
  have hat : ∀ (j : Nat) s, (P.set 0 [0])[j]? = some s → (j = 0 ∧ s = [0]) ∨ (j ≠ 0 ∧ P[j]? = some s) := by
    intro j s hs
    by_cases e : j = 0
    · subst e
      rw [List.getElem?_set_self (by rw [h.1]; exact hp)] at hs
      exact .inl ⟨rfl, (Option.some.inj hs).symm⟩
    · rw [List.getElem?_set_ne (fun h => e h.symm)] at hs
      exact .inr ⟨e, hs⟩
  have hh : ∀ (k : Nat) r, P[k]? = some r → r = if k ∈ order7 g then setL (order7 g) else [] := by
    intro k r hr
    have := h.2 k r hr
    rwa [List.take_of_length_le (Nat.le_refl _)] at this
  refine ⟨by simp [h.1], fun j s hs => ?_, fun j s hs x hx => ?_, fun j s hs x hx => ?_, List.getElem?_set_self (by rw [h.1]; exact hp)⟩
  · rcases hat j s hs with ⟨rfl, rfl⟩ | ⟨_, hs⟩
    · simp
    · rw [hh j s hs]
      split
      · exact setL_rising _
      · exact List.Pairwise.nil
  · rcases hat j s hs with ⟨rfl, rfl⟩ | ⟨_, hs⟩
    · simp at hx
      subst hx
      exact ⟨c0, c0⟩
    · rw [hh j s hs] at hx
      split at hx
      · rename_i hj
        exact ⟨(order_come G x).1 ((setL_mem _ _).1 hx), (order_come G j).1 hj⟩
      · simp at hx
  · rcases hat j s hs with ⟨rfl, rfl⟩ | ⟨_, hs⟩
    · simp [hx.zero]
    · rw [hh j s hs, if_pos ((order_come G j).2 hx.1)]
      exact (setL_mem _ _).2 ((order_come G x).2 hx.2.1)
/-- what all of some sets have, and a first one -/
def meetAll (P : List (List Nat)) (r pre : List Nat) : List Nat := pre.foldl (fun s u => meetL s (P.getD u [])) r
theorem meetAll_snoc (P : List (List Nat)) (r pre : List Nat) (x : Nat) : meetAll P r (pre ++ [x]) = meetL (meetAll P r pre) (P.getD x []) := by unfold meetAll; rw [List.foldl_append]; rfl
theorem meetAll_mem (P : List (List Nat)) (r pre : List Nat) (x : Nat) : x ∈ meetAll P r pre ↔ x ∈ r ∧ ∀ u ∈ pre, x ∈ P.getD u [] := by
  induction pre generalizing r with
  | nil => simp [meetAll]
  | cons u t ih =>
    show x ∈ meetAll P (meetL r (P.getD u [])) t ↔ _
    rw [ih, mem_meetL]
    simp only [List.mem_cons, forall_eq_or_imp]
    exact ⟨fun ⟨⟨a, b⟩, c⟩ => ⟨a, b, c⟩, fun ⟨a, b, c⟩ => ⟨⟨a, b⟩, c⟩⟩
theorem meetAll_rising (P : List (List Nat)) {r : List Nat} (h : r.Pairwise (· < ·)) (pre : List Nat) : (meetAll P r pre).Pairwise (· < ·) := by
  induction pre generalizing r with
  | nil => exact h
  | cons u t ih => exact ih (meetL_rising h)
theorem meetAll_len (P : List (List Nat)) (r pre : List Nat) : (meetAll P r pre).length ≤ r.length := by
  induction pre generalizing r with
  | nil => exact Nat.le_refl _
  | cons u t ih => exact Nat.le_trans (ih _) (meetL_len _ _)
theorem meetAll_next {g P LP : List (List Nat)} (G : Gr g) (h : UB g P) (hl : Came g.length (edgesL g) LP) {k : Nat} {r L : List Nat} (hr : P[k]? = some r) (hL : LP[k]? = some L) : Next1 g P k r (putL (meetAll P r L) k) := by
  refine ⟨putL_rising (meetAll_rising P (h.rising k r hr) L) k, fun x => ?_⟩
  rw [putL_mem, meetAll_mem]
  constructor
  · rintro (e | ⟨h1, h2⟩)
    · exact .inr e
    · refine .inl ⟨h1, fun u s hu hs => ?_⟩
      have := h2 u (((hl.2 k L hL).2 u).2 ((edges_all G u k).2 hu))
      rwa [List.getD_eq_getElem?_getD, hs] at this
  · rintro (⟨h1, h2⟩ | e)
    · refine .inr ⟨h1, fun u hu => ?_⟩
      have hu' := (edges_all G u k).1 (((hl.2 k L hL).2 u).1 hu)
      obtain ⟨s, hs⟩ : ∃ s, P[u]? = some s := ⟨_, List.getElem?_eq_getElem (by rw [h.len]; exact RchW.lt G hu'.1)⟩
      rw [List.getD_eq_getElem?_getD, hs]
      exact h2 u s hu' hs
    · exact .inl e
theorem UB.few {g P : List (List Nat)} (G : Gr g) (h : UB g P) {k : Nat} {r : List Nat} (hr : P[k]? = some r) : r.length ≤ 12 := by
  have h8 := nodup_le (n := g.length) (rising_nodup (h.rising k r hr)) (fun x hx => RchW.lt G (h.come k r hr x hx).1)
  have := G.most
  omega
theorem came_few {g LP : List (List Nat)} (G : Gr g) (hl : Came g.length (edgesL g) LP) {k : Nat} {L : List Nat} (hL : LP[k]? = some L) : L.length ≤ 12 := by
  have h8 := nodup_le (n := g.length) (rising_nodup (hl.2 k L hL).1) (fun x hx => RchW.lt G ((edges_all G x k).1 (((hl.2 k L hL).2 x).1 hx)).1)
  have := G.most
  omega
theorem came_some {g LP : List (List Nat)} (G : Gr g) (hl : Came g.length (edgesL g) LP) {k : Nat} {L : List Nat} (hL : LP[k]? = some L) (hc : Come g k) (hk : k ≠ 0) : L ≠ [] := by
  rintro rfl
  cases hc with
  | start _ => exact hk rfl
  | @step i _ l hi hli hj _ => exact absurd (((hl.2 k [] hL).2 i).2 ((edges_all G i k).2 ⟨hi, l, hli, hj⟩)) (by simp)
/-- how much all sets of a row have, read off the memory -/
def lenAt (W : World) (s k : Nat) : Nat := match W.cell? ⟨s, k, none⟩ with | some (.slice _ n _) => n | _ => 0
def massW (W : World) (s n : Nat) : Nat := ((List.range n).map (lenAt W s)).sum
theorem mass_of {W : World} {B bx s n c : Nat} {ys : List LV} {P : List (List Nat)} (h : OwnB W B bx (.slice (some ⟨s, 0, none⟩) n c) ys) (hy : lists ys = natsL P) (hn : P.length = n) : massW W s n = mass P := by
  unfold massW mass
  congr 1
  refine List.ext_getElem? fun k => ?_
  rw [List.getElem?_map, List.getElem?_map]
  by_cases hk : k < n
  · obtain ⟨r, hr⟩ : ∃ r, P[k]? = some r := ⟨_, List.getElem?_eq_getElem (by omega)⟩
    obtain ⟨v, hv⟩ := own_of_lists hy hr
    obtain ⟨a, c', e⟩ := slice_of_owned (h.row hv)
    have hc := h.cell hv
    simp only [] at e hc
    rw [List.getElem?_range hk, hr]
    simp only [Option.map_some, lenAt, hc, e, nats_length]
  · rw [List.getElem?_eq_none (by simp; omega), List.getElem?_eq_none (by omega)]
    rfl
theorem Sep.cons {V : World} {B : Nat} {l : List OR} {y : OR} (h : Sep V B l) (hy : y.own V B) (hne : ∀ k, y.v.ownBlock = some k → ∀ x ∈ l, x.v.ownBlock ≠ some k) : Sep V B (y :: l) := by
  refine ⟨fun x hx => ?_, List.pairwise_cons.2 ⟨fun x hx => ?_, h.2⟩⟩
  · rcases List.mem_cons.1 hx with rfl | hx
    · exact hy
    · exact h.1 x hx
  · cases e : y.v.ownBlock with
    | none => exact .inl e
    | some k =>
      right
      rw [e]
      exact fun e2 => hne k e x hx e2.symm
theorem keeps_only {P : Nat → Prop} {V Z : World} (h : Only P V Z) (hc : ∀ k, P k → ∀ o, V.heap[k]? = some o → o.isCells = true) : KeepsOthers V Z :=
  ⟨h.size, fun k o hk ho => (h.block k (Array.getElem?_eq_some_iff.1 hk).1 (fun hp => by rw [hc k hp o hk] at ho; cases ho)).trans hk⟩
theorem Marks.next {n0 D : Nat} {ds : List Deferred} {X W : World} (h : Marks n0 ds X) (hb : Below X.heap.size X W) (hX : X.heap.size ≤ D) (hn : n0 ≤ D) (hD : W.heap[D]? = some (.deferred (some []))) : Marks n0 ({ target := .collected D, args := #[] } :: ds) W := by
  obtain ⟨rs, h1, h2, h3⟩ := h
  refine ⟨D :: rs, by rw [h1]; rfl, List.nodup_cons.2 ⟨fun hm => ?_, h2⟩, fun r hr => ?_⟩
  · have := (Array.getElem?_eq_some_iff.1 (h3 D hm).2).1
    omega
  · rcases List.mem_cons.1 hr with rfl | hr
    · exact ⟨hn, hD⟩
    · exact ⟨(h3 r hr).1, (hb.block r (Array.getElem?_eq_some_iff.1 (h3 r hr).2).1).trans (h3 r hr).2⟩
def meetS (Q : List (List Nat)) (r : List Nat) {n : Nat} (pre : List { u : Nat // u < n }) : List Nat := meetAll Q r (pre.map (·.1))
theorem meetS_snoc (Q : List (List Nat)) (r : List Nat) {n : Nat} (pre : List { u : Nat // u < n }) (y : { u : Nat // u < n }) {t : List Nat} (ht : Q[y.1]? = some t) : meetS Q r (pre ++ [y]) = meetL (meetS Q r pre) t := by
  unfold meetS
  rw [List.map_append]
  show meetAll Q r (_ ++ [y.1]) = _
  rw [meetAll_snoc, List.getD_eq_getElem?_getD, ht]
  rfl
theorem meetS_len (Q : List (List Nat)) (r : List Nat) {n : Nat} (pre : List { u : Nat // u < n }) : (meetS Q r pre).length ≤ r.length := meetAll_len _ _ _
theorem order_next {g : List (List Nat)} (G : Gr g) {q x : Nat} (hx : (order7 g)[q + 1]? = some x) : x ≠ 0 := by
  obtain ⟨r, e⟩ := order_zero G
  have h1 := order_once G
  rw [e] at hx h1
  rintro rfl
  exact (List.nodup_cons.1 h1).1 (List.mem_of_getElem? (by simpa using hx))
theorem set_same {Q : List (List Nat)} {x : Nat} {r : List Nat} (hr : Q[x]? = some r) : Q.set x r = Q := by
  refine List.ext_getElem? fun k => ?_
  by_cases e : k = x
  · subst e
    rw [List.getElem?_set_self (List.getElem?_eq_some_iff.1 hr).1, hr]
  · rw [List.getElem?_set_ne (fun h => e h.symm)]
theorem round3 {g P Q LP : List (List Nat)} (G : Gr g) (hub : UB g Q) (hl : Came g.length (edgesL g) LP) {ch : Bool} {q x : Nat} {r L : List Nat} (h1 : mass Q ≤ mass P) (h2 : ch = true → mass Q < mass P) (h3 : ch = false → Q = P ∧ ∀ k ∈ ((order7 g).drop 1).take q, Fixed g P k) (hx : (order7 g)[q + 1]? = some x) (hr : Q[x]? = some r) (hL : LP[x]? = some L) :
    UB g (Q.set x (putL (meetAll Q r L) x)) ∧ mass (Q.set x (putL (meetAll Q r L) x)) ≤ mass P ∧ ((ch || !decide (putL (meetAll Q r L) x = r)) = true → mass (Q.set x (putL (meetAll Q r L) x)) < mass P) ∧ ((ch || !decide (putL (meetAll Q r L) x = r)) = false → Q.set x (putL (meetAll Q r L) x) = P ∧ ∀ k ∈ ((order7 g).drop 1).take (q + 1), Fixed g P k) := by
  have hc : Come g x := (order_come G x).1 (List.mem_of_getElem? hx)
  have n := meetAll_next G hub hl hr hL
  have hless := hub.less hc hr n
  have hms := mass_set (r' := putL (meetAll Q r L) x) hr
  refine ⟨hub.next (order_next G hx) hc hr n, by omega, fun h => ?_, fun h => ?_⟩
  · cases ch with
    | true => have := h2 rfl; omega
    | false =>
      have : putL (meetAll Q r L) x ≠ r := by simpa using h
      have := hless.2 this
      omega
  · cases ch with
    | true => simp at h
    | false =>
      have he : putL (meetAll Q r L) x = r := by simpa using h
      obtain ⟨rfl, h4⟩ := h3 rfl
      rw [he] at n ⊢
      refine ⟨set_same hr, fun k hk => ?_⟩
      have e1 : ((order7 g).drop 1)[q]? = some x := by rw [List.getElem?_drop, Nat.add_comm]; exact hx
      rw [List.take_add_one, e1] at hk
      rcases List.mem_append.1 hk with hk | hk
      · exact h4 k hk
      · simp at hk
        subst hk
        exact n.fixed hr
theorem all_fixed {g P : List (List Nat)} (G : Gr g) {q : Nat} (hq : (order7 g).length - 1 ≤ q) (h : ∀ k ∈ ((order7 g).drop 1).take q, Fixed g P k) : ∀ k, Come g k → k ≠ 0 → Fixed g P k := by
  intro k hk hk0
  refine h k ?_
  rw [List.take_of_length_le (by rw [List.length_drop]; exact hq)]
  have := (order_come G k).2 hk
  obtain ⟨r, e⟩ := order_zero G
  rw [e] at this ⊢
  rcases List.mem_cons.1 this with h1 | h1
  · exact absurd h1 hk0
  · simpa using h1
def flag (v : Value) : Nat := match v with | .bool true => 1 | _ => 0
end
end Go.Proofs.YteihecnmnajahaaGreatDoor
