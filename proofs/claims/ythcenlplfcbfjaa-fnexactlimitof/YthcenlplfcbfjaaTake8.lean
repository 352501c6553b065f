/- A node goes into the one that leads to it. -/
import Derived.Test.YthcenlplfcbfjaaOnly8
import Derived.Test.YthcenlplfcbfjaaMarks8
import Derived.Deep.CutRange
import Derived.Deep.DeepCutAuto
namespace Go.Proofs.Ythcenlplfcbfjaa
open Go Go.RowKit Go.Shelf
attribute [local go_sem] Oper.semAt_some
set_option linter.unusedVariables false
set_option linter.unusedSimpArgs false
set_option maxRecDepth 100000

def addAll (s l : List Nat) : List Nat := l.foldl putL s
theorem addAll_snoc (s l : List Nat) (x : Nat) : addAll s (l ++ [x]) = putL (addAll s l) x := by unfold addAll; rw [List.foldl_append]; rfl
theorem addAll_mem {x : Nat} : ∀ {l s : List Nat}, x ∈ addAll s l ↔ x ∈ s ∨ x ∈ l
  | [], s => by simp [addAll]
  | y :: r, s => by
    have : addAll s (y :: r) = addAll (putL s y) r := rfl
    rw [this, addAll_mem, putL_mem]
    simp
    constructor
    · rintro ((h | h) | h)
      · exact .inr (.inl h)
      · exact .inl h
      · exact .inr (.inr h)
    · rintro (h | h | h)
      · exact .inl (.inr h)
      · exact .inl (.inl h)
      · exact .inr h
theorem addAll_rising : ∀ {l s : List Nat}, s.Pairwise (· < ·) → (addAll s l).Pairwise (· < ·)
  | [], s, h => h
  | y :: r, s, h => addAll_rising (l := r) (putL_rising h y)
/-- the nodes have turned -/
theorem Shr.nodes {w w' : World} {B tb pb n c : Nat} {nv nv' : Value} {ns : List Nat} {ys : List LV} {N : List (List Nat)} (h : Shr w B tb pb n c nv ns ys N) {k : Nat} (hs : Sep w' B (⟨57, 2, .slice (some ⟨tb, 0, none⟩) 1 1, 1, [nv, .slice (some ⟨pb, 0, none⟩) n c].set 0 nv'⟩ :: ⟨3, 1, nv', (dropN ns k).length, ints (nats (dropN ns k))⟩ :: (⟨54, 1, .slice (some ⟨pb, 0, none⟩) n c, n, vals ys⟩ :: ys.map rowL))) : Shr w' B tb pb n c nv' (dropN ns k) ys N := ⟨hs, h.lst, h.isN, dropN_rising h.rise k, fun x hx => h.lt x (mem_dropN.1 hx).1⟩
theorem Shr.inner {w : World} {B tb pb n c : Nat} {nv : Value} {ns : List Nat} {ys : List LV} {N : List (List Nat)} (h : Shr w B tb pb n c nv ns ys N) {y : LV} (hy : y ∈ ys) {b : Nat} (hb : y.v.ownBlock = some b) : B ≤ b ∧ b < w.heap.size := Sep.size h.sep (x := rowL y) (by unfold rowsShr; simp; exact .inr (.inr (.inr ⟨y, hy, rfl⟩))) hb
theorem Shr.nblock {w : World} {B tb pb n c : Nat} {nv : Value} {ns : List Nat} {ys : List LV} {N : List (List Nat)} (h : Shr w B tb pb n c nv ns ys N) {b : Nat} (hb : nv.ownBlock = some b) : B ≤ b ∧ b < w.heap.size := Sep.size h.sep (x := ⟨3, 1, nv, ns.length, ints (nats ns)⟩) (by simp [rowsShr]) hb
/-- two sets lie apart, and apart from their row -/
theorem Shr.apart {w : World} {B tb pb n c : Nat} {nv : Value} {ns : List Nat} {ys : List LV} {N : List (List Nat)} (h : Shr w B tb pb n c nv ns ys N) {i j : Nat} {y z : LV} (hy : ys[i]? = some y) (hz : ys[j]? = some z) (hij : i ≠ j) {b : Nat} (hb : y.v.ownBlock = some b) : b ≠ pb ∧ z.v.ownBlock ≠ some b := by
  have hp := h.sep.2
  have h1 := (List.pairwise_cons.1 hp).2
  have h2 := (List.pairwise_cons.1 h1).2
  have h3 := List.pairwise_cons.1 h2
  have hm := List.mem_of_getElem? hy
  refine ⟨fun e => ?_, fun e => ?_⟩
  · rcases h3.1 (rowL y) (List.mem_map_of_mem hm) with e1 | e1
    · cases e1
    · exact e1 (by rw [e] at hb; exact hb.symm)
  · have h4 := List.pairwise_iff_getElem.1 (List.pairwise_map.1 h3.2)
    obtain ⟨hi, rfl⟩ := List.getElem?_eq_some_iff.1 hy
    obtain ⟨hj, rfl⟩ := List.getElem?_eq_some_iff.1 hz
    rcases Nat.lt_or_gt_of_ne hij with hlt | hlt
    · rcases h4 i j hi hj hlt with e1 | e1
      · simp only [rowL] at e1; rw [hb] at e1; cases e1
      · simp only [rowL] at e1; rw [hb, e] at e1; exact e1 rfl
    · rcases h4 j i hj hi hlt with e1 | e1
      · simp only [rowL] at e1; rw [e] at e1; cases e1
      · simp only [rowL] at e1; rw [hb, e] at e1; exact e1 rfl
theorem keeps_grown {w A A' : World} {row : Option Nat} (h : KeepsOthers w A) (hg : A.grownBy A' row) (hr : ∀ r, row = some r → w.heap.size ≤ r) : KeepsOthers w A' := ⟨Nat.le_trans h.size hg.size, fun k o hk ho => by
  have hkw := (Array.getElem?_eq_some_iff.1 hk).1
  have e := h.same k o hk ho
  exact (hg.block k (Array.getElem?_eq_some_iff.1 e).1 (fun e2 => by have := hr k e2.symm; omega)).trans e⟩
theorem Only.keeps {P : Nat → Prop} {V Z : World} (h : Only P V Z) (hc : ∀ k, P k → ∃ c t fz, V.heap[k]? = some (.cells c t fz)) : KeepsOthers V Z := ⟨h.size, fun k o hk ho => (h.block k (Array.getElem?_eq_some_iff.1 hk).1 (fun hp => by
  obtain ⟨c, t, fz, e⟩ := hc k hp
  rw [e] at hk
  cases hk
  simp [Obj.isCells] at ho)).trans hk⟩
/-- while a node goes: the set of its leader grows -/
def TakeI (w : World) (C B tb pb n c : Nat) (nv : Value) (ns : List Nat) (N : List (List Nat)) (p k : Nat) (rk : List Nat) (svk : Value) (s : List Nat) (T : Nat) (V : World) : Prop :=
  ∃ ys', Shr V B tb pb n c nv ns ys' (N.set p s) ∧ ys'[k]? = some ⟨nats rk, svk⟩ ∧ (∀ y b, ys'[p]? = some y → y.v.ownBlock = some b → (b < w.heap.size ∧ b < C) ∨ T ≤ b) ∧ Boxed V w.heap.size 100 (.pointer (some ⟨tb, 0, none⟩)) ∧ Boxed V (w.heap.size + 1) 3 (.int .i64 (p : Int)) ∧ Below B w V ∧ T ≤ V.heap.size ∧ w.heap.size + 2 ≤ V.heap.size ∧ p < n ∧ (pb < w.heap.size ∧ pb < C) ∧ KeepsOthers w V ∧ ∀ j, C ≤ j → j < w.heap.size → V.heap[j]? = w.heap[j]?
theorem TakeI.grown {w : World} {C B tb pb n c : Nat} {nv : Value} {ns : List Nat} {N : List (List Nat)} {p k : Nat} {rk : List Nat} {svk : Value} {s : List Nat} {T : Nat} {A A' : World} {row : Option Nat} (hB : B ≤ w.heap.size) (h : TakeI w C B tb pb n c nv ns N p k rk svk s T A) (hg : A.grownBy A' row) (hr : ∀ r, row = some r → w.heap.size + 2 ≤ r ∧ ∃ o : Obj, A.heap[r]? = some o ∧ o.isCells = false) : TakeI w C B tb pb n c nv ns N p k rk svk s T A' := by
  obtain ⟨ys', h1, h2, h3, h4, h5, h6, h7, h8, h9, h10, h11, h12⟩ := h
  exact ⟨ys', ⟨Sep.calm h1.sep hg (fun r e => (hr r e).2), h1.lst, h1.isN, h1.rise, h1.lt⟩, h2, h3, h4.kept hg (fun e => by have := (hr _ e.symm).1; omega), h5.kept hg (fun e => by have := (hr _ e.symm).1; omega), h6.grown hg (Nat.le_trans hB h6.size) (fun k e => by have := (hr _ e).1; omega), Nat.le_trans h7 hg.size, Nat.le_trans h8 hg.size, h9, h10, keeps_grown h11 hg (fun r e => by have := (hr r e).1; omega), fun j a b => (hg.block j (by have := h6.size; omega) (fun e => by have := (hr _ e.symm).1; omega)).trans (h12 j a b)⟩
theorem take_start {w W2 W3 W' : World} {C B tb pb n c : Nat} {nv : Value} {ns : List Nat} {ys : List LV} {N : List (List Nat)} {p k : Nat} {rk rp : List Nat} {svk svp svp' : Value} (hB : B ≤ w.heap.size) (h : Shr W2 B tb pb n c nv ns (ys.set p ⟨nats (dropN rp k), svp'⟩) (N.set p (dropN rp k))) (hrp : N[p]? = some rp) (hk : (ys.set p ⟨nats (dropN rp k), svp'⟩)[k]? = some ⟨nats rk, svk⟩) (hkp : k ≠ p) (y0 : Boxed W2 w.heap.size 100 (.pointer (some ⟨tb, 0, none⟩))) (y1 : Boxed W2 (w.heap.size + 1) 3 (.int .i64 (p : Int))) (B2 : Below B w W2) (hnew : svp'.ownBlock = svp.ownBlock) (hin : ∀ b, svp.ownBlock = some b → b < w.heap.size ∧ b < C) (bW : Below W2.heap.size W2 W3) (hg : W3.grownBy W' none) (zz : w.heap.size + 2 ≤ W2.heap.size) (hpb : pb < w.heap.size ∧ pb < C) (hko : KeepsOthers w W2) (hfr : ∀ j, C ≤ j → j < w.heap.size → W2.heap[j]? = w.heap[j]?) : TakeI w C B tb pb n c nv ns N p k rk svk (addAll (dropN rp k) []) W'.heap.size W' := by
  have hpn : p < n := by have := (List.getElem?_eq_some_iff.1 hrp).1; have h2 := h.isN.1; rw [List.length_set] at h2; omega
  have hpl : p < ys.length := by have := h.len; rw [List.length_set] at this; omega
  refine ⟨_, ⟨Sep.calm (h.below bW).sep hg (fun r e => by cases e), h.lst, h.isN, h.rise, h.lt⟩, hk, fun y b hy hb => ?_, (boxed_below y0 bW).kept hg (by simp), (boxed_below y1 bW).kept hg (by simp), (B2.trans (bW.mono (Nat.le_trans hB B2.size))).grown hg (Nat.le_trans (Nat.le_trans hB B2.size) bW.size) (fun k e => by cases e), Nat.le_refl _, Nat.le_trans zz (Nat.le_trans bW.size hg.size), hpn, hpb, keeps_grown (hko.trans (keeps_below bW)) hg (fun r e => by cases e), fun j a b => (hg.block j (by have := bW.size; omega) (fun e => by cases e)).trans ((bW.block j (by omega)).trans (hfr j a b))⟩
  rw [List.getElem?_set_self hpl] at hy
  obtain rfl := Option.some.inj hy
  simp only [] at hb
  rw [hnew] at hb
  exact .inl (hin b hb)
theorem take_leaf {w V Z : World} {C B tb pb n c : Nat} {nv : Value} {ns : List Nat} {ys' : List LV} {N : List (List Nat)} {p k : Nat} {rk : List Nat} {svk : Value} {s : List Nat} {T A0 x : Nat} {sv sv2 : Value} (hB : B ≤ w.heap.size) (hA0 : w.heap.size + 2 ≤ A0)
    (hq : Shr V B tb pb n c nv ns ys' (N.set p s) ∧ ys'[k]? = some ⟨nats rk, svk⟩ ∧ (∀ y b, ys'[p]? = some y → y.v.ownBlock = some b → (b < w.heap.size ∧ b < C) ∨ T ≤ b) ∧ Boxed V w.heap.size 100 (.pointer (some ⟨tb, 0, none⟩)) ∧ Boxed V (w.heap.size + 1) 3 (.int .i64 (p : Int)) ∧ Below B w V ∧ T ≤ V.heap.size ∧ w.heap.size + 2 ≤ V.heap.size ∧ p < n ∧ (pb < w.heap.size ∧ pb < C) ∧ KeepsOthers w V ∧ ∀ j, C ≤ j → j < w.heap.size → V.heap[j]? = w.heap[j]?)
    (hsv : ys'[p]? = some ⟨nats s, sv⟩) (hT : A0 ≤ T) (hkp : k ≠ p) (hx : x < n) (hs2 : Sep Z B (⟨54, 1, .slice (some ⟨pb, 0, none⟩) n c, n, (vals ys').set p sv2⟩ :: ⟨3, 1, sv2, (putL s x).length, ints (nats (putL s x))⟩ :: (cellOR 57 2 tb [nv, .slice (some ⟨pb, 0, none⟩) n c] :: ⟨3, 1, nv, ns.length, ints (nats ns)⟩ :: ((ys'.take p).map rowL ++ (ys'.drop (p + 1)).map rowL)))) (ho2 : Only (fun b => b = pb ∨ sv.ownBlock = some b) V.drew Z) (hn2 : ∀ g, sv2.ownBlock = some g → sv.ownBlock = some g ∨ V.drew.heap.size ≤ g) :
    KeepsOthers V Z ∧ Stay (fun j => j < w.heap.size ∧ svk.ownBlock = some j) A0 T V Z ∧ TakeI w C B tb pb n c nv ns N p k rk svk (putL s x) T Z := by
  obtain ⟨h1, h2, h3, h4, h5, h6, h7, h9, hpn, hpb, hko, hfr⟩ := hq
  have hsm := List.mem_of_getElem? hsv
  have zd : V.drew.heap.size = V.heap.size := rfl
  have hd : ∀ j : Nat, V.drew.heap[j]? = V.heap[j]? := fun _ => rfl
  have hNp : (N.set p s)[p]? = some s := List.getElem?_set_self (by have := h1.isN.1; rw [List.length_set] at this; omega)
  have hrow := h1.sep.1 (rowL ⟨nats s, sv⟩) (by unfold rowsShr; simp; exact .inr (.inr (.inr ⟨_, hsm, rfl⟩)))
  have kind : ∀ k o, V.heap[k]? = some o → o.isCells = false → ¬ (k = pb ∨ sv.ownBlock = some k) := by
    rintro k o hk ho (e | e)
    · obtain ⟨c', fz, hc⟩ := own_kind (h1.sep.1 ⟨54, 1, .slice (some ⟨pb, 0, none⟩) n c, n, vals ys'⟩ (by simp [rowsShr])) (show (Value.slice (some ⟨pb, 0, none⟩) n c).ownBlock = some k by rw [e]; rfl)
      rw [hc] at hk; cases hk; simp [Obj.isCells] at ho
    · obtain ⟨c', fz, hc⟩ := own_kind hrow (show (rowL ⟨nats s, sv⟩).v.ownBlock = some k from e)
      rw [hc] at hk; cases hk; simp [Obj.isCells] at ho
  have far : ∀ b, (b = pb ∨ sv.ownBlock = some b) → ((b < w.heap.size ∧ b < C) ∨ T ≤ b) ∧ B ≤ b := by
    rintro b (e | e)
    · subst e; exact ⟨.inl hpb, (h1.cells).2.2.2.2.1⟩
    · exact ⟨h3 _ b hsv e, (h1.inner hsm e).1⟩
  have hVZ : KeepsOthers V Z := ⟨ho2.size, fun k o hk ho => (ho2.block k (Array.getElem?_eq_some_iff.1 hk).1 (kind k o hk ho)).trans hk⟩
  refine ⟨hVZ, ⟨⟨ho2.os, ho2.tape, ho2.output, ho2.size, fun k hk => absurd hk (by omega)⟩, fun j hj => ?_⟩, ys'.set p ⟨nats (putL s x), sv2⟩, ?_, ?_, ?_, ?_, ?_, ?_, Nat.le_trans h7 ho2.size, Nat.le_trans h9 ho2.size, hpn, hpb, hko.trans hVZ, fun j a b => (ho2.block j (by omega) (fun e => by have := (far j e).1; omega)).trans (hfr j a b)⟩
  · rcases hj with hj | hj
    · refine ho2.block j (by omega) (fun e => ?_)
      have ha := h1.apart h2 hsv hkp hj.2
      rcases e with e | e
      · exact ha.1 e
      · exact ha.2 e
    · exact ho2.block j (by omega) (fun e => by have := (far j e).1; omega)
  · have := h1.turn (r' := putL s x) hsv (putL_rising (h1.isN.2 p s hNp).1 x) (fun y hy => by
      rcases (putL_mem _ _ _).1 hy with e | e
      · omega
      · exact (h1.isN.2 p s hNp).2 y e) hs2
    rw [List.set_set] at this
    exact this
  · rw [List.getElem?_set_ne (fun e => hkp e.symm)]; exact h2
  · intro y b hy hb
    rw [List.getElem?_set_self (List.getElem?_eq_some_iff.1 hsv).1] at hy
    obtain rfl := Option.some.inj hy
    rcases hn2 b hb with e | e
    · exact h3 _ b hsv e
    · right; omega
  · exact (ho2.block w.heap.size (by omega) (fun e => by have := (far _ e).1; omega)).trans h4
  · exact (ho2.block (w.heap.size + 1) (by omega) (fun e => by have := (far _ e).1; omega)).trans h5
  · exact ⟨ho2.os.trans h6.os, ho2.tape.trans h6.tape, ho2.output.trans h6.output, Nat.le_trans h6.size ho2.size, fun k hk => (ho2.block k (by have := h6.size; omega) (fun e => by have := (far _ e).2; omega)).trans (h6.block k hk)⟩
set_option maxHeartbeats 4000000 in
theorem takeUp_any (C B tb pb n c : Nat) (nv : Value) (ns : List Nat) (ys : List LV) (N : List (List Nat)) (k p : Nat) (rk rp : List Nat) (w : World) (hn : n ≤ 12) (hB : B ≤ w.heap.size) (h : Shr w B tb pb n c nv ns ys N) (hkp : k ≠ p) (hrk : N[k]? = some rk) (hrp : N[p]? = some rp) (hC : tb < C ∧ pb < C ∧ (∀ b, nv.ownBlock = some b → b < C) ∧ ∀ y ∈ ys, ∀ b, y.v.ownBlock = some b → b < C) :
    Calls Try.prog 84 #[.pointer (some ⟨tb, 0, none⟩), .int .i64 (k : Int), .int .i64 (p : Int)] w fun e w' => e = .returned (.tuple #[]) ∧ ∃ nv' ys', Shr w' B tb pb n c nv' (dropN ns k) ys' (N.set p (addAll (dropN rp k) rk)) ∧ Below B w w' ∧ KeepsOthers w w' ∧ ∀ j, C ≤ j → j < w.heap.size → w'.heap[j]? = w.heap[j]? := by
  have hkn : k < n := by rw [← h.isN.1]; exact (List.getElem?_eq_some_iff.1 hrk).1
  have hpn : p < n := by rw [← h.isN.1]; exact (List.getElem?_eq_some_iff.1 hrp).1
  have hrkf := h.isN.few hrk
  have hrpf := h.isN.few hrp
  have hnl := h.nfew
  obtain ⟨c0, c1, hc2, ht, hp⟩ := h.cells
  have b2 := below2 w (.cells #[.pointer (some ⟨tb, 0, none⟩)] 100) (.cells #[.int .i64 (p : Int)] 3)
  have z2 : ((w.alloc (.cells #[.pointer (some ⟨tb, 0, none⟩)] 100)).alloc (.cells #[.int .i64 (p : Int)] 3)).heap.size = w.heap.size + 2 := by simp
  have x0 := ((Boxed.new w 100 (.pointer (some ⟨tb, 0, none⟩))).alloc (.cells #[.int .i64 (p : Int)] 3))
  have x1 := (Boxed.new (w.alloc (.cells #[.pointer (some ⟨tb, 0, none⟩)] 100)) 3 (.int .i64 (p : Int)))
  simp only [World.size_alloc] at x1
  have h2 := h.below b2
  have HD1 := hid (drop_any 57 2 tb 1 1 0 [nv, .slice (some ⟨pb, 0, none⟩) n c] nv ns k _ B _ h2.sep rfl h.rise (by omega))
  have H2 := hid h2
  have HKD : Hid (∀ b, (b = tb ∨ nv.ownBlock = some b) → ∃ c t fz, ((w.alloc (.cells #[.pointer (some ⟨tb, 0, none⟩)] 100)).alloc (.cells #[.int .i64 (p : Int)] 3)).heap[b]? = some (.cells c t fz)) := by
    rintro b (e | e)
    · obtain ⟨c', fz, hc⟩ := own_kind (h2.sep.1 (cellOR 57 2 tb [nv, .slice (some ⟨pb, 0, none⟩) n c]) (by simp [rowsShr])) (show (Value.slice (some ⟨tb, 0, none⟩) 1 1).ownBlock = some b by rw [e]; rfl)
      exact ⟨_, _, _, hc⟩
    · obtain ⟨c', fz, hc⟩ := own_kind (h2.sep.1 ⟨3, 1, nv, ns.length, ints (nats ns)⟩ (by simp [rowsShr])) e
      exact ⟨_, _, _, hc⟩
  have HNB : Hid (∀ b, (b = tb ∨ nv.ownBlock = some b) → B ≤ b ∧ b < w.heap.size ∧ b < C) := by
    rintro b (e | e)
    · subst e; exact ⟨ht.1, ht.2, hC.1⟩
    · exact ⟨(h.nblock e).1, (h.nblock e).2, hC.2.2.1 b e⟩
  have HIN : Hid (∀ y ∈ ys, ∀ b, y.v.ownBlock = some b → b < w.heap.size ∧ b < C) := fun y hy b hb => ⟨(h.inner hy hb).2, hC.2.2.2 y hy b hb⟩
  have hpC := hC.2.1
  clear hC
  clear h h2 hc2
  refine (callsIn_wide (n := 8)).1 ?_
  refine callsIn_of_wp_marks Try.func84 rfl trivial (wpIn_wide.2 (wp_mono ?_ calm_le)) rfl
  simp only [Try.ntmps84, List.size_toArray, List.length_cons, List.length_nil, Nat.reduceAdd, Nat.reduceSub, Array.replicate_succ, Array.replicate_zero, List.push_toArray, List.append_toArray, List.nil_append, List.cons_append]
  go_wp2_with fail
  refine HD1.out.mono ?_
  rintro e Z1 ⟨rfl, nv', hs1, ho1, hnew1⟩
  have h1 := H2.out.nodes hs1
  have zz : w.heap.size + 2 ≤ Z1.heap.size := by have := ho1.size; simp at this; omega
  have y0 : Boxed Z1 w.heap.size 100 (.pointer (some ⟨tb, 0, none⟩)) := (ho1.block w.heap.size (by rw [z2]; omega) (fun e => by have := (HNB.out _ e).2.1; omega)).trans x0
  have y1 : Boxed Z1 (w.heap.size + 1) 3 (.int .i64 (p : Int)) := (ho1.block (w.heap.size + 1) (by rw [z2]; omega) (fun e => by have := (HNB.out _ e).2.1; omega)).trans x1
  have B1 : Below B w Z1 := ⟨ho1.os, ho1.tape, ho1.output, by omega, fun j hj => (ho1.block j (by rw [z2]; omega) (fun e => by have := (HNB.out _ e).1; omega)).trans (b2.block j (by omega))⟩
  have F1 : ∀ j, C ≤ j → j < w.heap.size → Z1.heap[j]? = w.heap[j]? := fun j a b => (ho1.block j (by rw [z2]; omega) (fun e => by have := (HNB.out _ e).2.2; omega)).trans (b2.block j b)
  have K1 : KeepsOthers w Z1 := (keeps_below b2).trans (ho1.keeps HKD.out)
  obtain ⟨_, svp, hrp', hsvp⟩ := h1.at hpn
  rw [hrp] at hrp'
  obtain rfl := Option.some.inj hrp'
  have hf := h1.front hsvp
  have HD2 := hid (drop_any 54 1 pb n c p (vals ys) svp rp k _ B Z1.drew (by have := Sep.below hf (bdr (Below.refl _ Z1)); simp only [nats_length] at this; exact this) (by simp [vals, hsvp]) (h1.isN.2 p rp hrp).1 (by omega))
  obtain ⟨d0, d1, _, _, _⟩ := h1.cells
  have q0 := y0.cell
  have q1 := y1.cell
  have H1 := hid (And.intro h1 (And.intro y0 (And.intro y1 (And.intro B1 (And.intro hsvp (And.intro K1 F1))))))
  have HSVP := hid hsvp
  clear F1 K1 HKD hs1 ho1 hnew1 h1 y0 y1 B1 hf HD1 H2 x0 x1 b2 hsvp hrp'
  go_upto_region 2 with fail
  go_cut [] from 12 to 19 (fun wx => ∃ svp', Shr wx B tb pb n c nv' (dropN ns k) (ys.set p ⟨nats (dropN rp k), svp'⟩) (N.set p (dropN rp k)) ∧ svp'.ownBlock = svp.ownBlock ∧ Boxed wx w.heap.size 100 (.pointer (some ⟨tb, 0, none⟩)) ∧ Boxed wx (w.heap.size + 1) 3 (.int .i64 (p : Int)) ∧ Below B w wx ∧ w.heap.size + 2 ≤ wx.heap.size ∧ KeepsOthers w wx ∧ ∀ j, C ≤ j → j < w.heap.size → wx.heap[j]? = w.heap[j]?)
  case first =>
    go_region_with (go_at_call 100; refine HD2.out.mono ?_; rintro e Z2 ⟨rfl, svp', hs2, ho2, hnew2⟩)
    all_goals
      go_wp2_with fail
      go_meet
      obtain ⟨h1, y0, y1, B1, hsvp, K1, F1⟩ := H1.out
      have hin : ∀ b, (b = pb ∨ svp.ownBlock = some b) → B ≤ b ∧ b < w.heap.size ∧ b < C := by
        rintro b (e | e)
        · subst e; exact ⟨hp.1, hp.2, hpC⟩
        · exact ⟨(h1.inner (List.mem_of_getElem? hsvp) e).1, HIN.out _ (List.mem_of_getElem? hsvp) b e⟩
      have zd : Z1.drew.heap.size = Z1.heap.size := rfl
      refine ⟨svp', h1.turn hsvp (dropN_rising (h1.isN.2 p rp hrp).1 k) (fun y hy => (h1.isN.2 p rp hrp).2 y (mem_dropN.1 hy).1) hs2, hnew2, (ho2.block w.heap.size (by omega) (fun e => by have := (hin _ e).2.1; omega)).trans y0, (ho2.block (w.heap.size + 1) (by omega) (fun e => by have := (hin _ e).2.1; omega)).trans y1, ⟨ho2.os.trans B1.os, ho2.tape.trans B1.tape, ho2.output.trans B1.output, Nat.le_trans B1.size ho2.size, fun j hj => (ho2.block j (by omega) (fun e => by have := (hin _ e).1; omega)).trans (B1.block j hj)⟩, by have := ho2.size; omega, K1.trans ((keeps_below (bdr (Below.refl _ Z1))).trans (ho2.keeps ?_)), fun j a b => (ho2.block j (by omega) (fun e => by have := (hin _ e).2.2; omega)).trans (F1 j a b)⟩
      rintro b (e | e)
      · obtain ⟨c', fz, hc⟩ := own_kind (h1.sep.1 ⟨54, 1, .slice (some ⟨pb, 0, none⟩) n c, n, vals ys⟩ (by simp [rowsShr])) (show (Value.slice (some ⟨pb, 0, none⟩) n c).ownBlock = some b by rw [e]; rfl)
        exact ⟨_, _, _, hc⟩
      · obtain ⟨c', fz, hc⟩ := own_kind (h1.sep.1 (rowL ⟨nats rp, svp⟩) (by unfold rowsShr; simp; exact .inr (.inr (.inr ⟨_, List.mem_of_getElem? hsvp, rfl⟩)))) (show (rowL ⟨nats rp, svp⟩).v.ownBlock = some b from e)
        exact ⟨_, _, _, hc⟩
  case rest =>
    obtain ⟨W2, hW2⟩ : ∃ W2 : World, W2 = wc := ⟨_, rfl⟩
    subst hW2
    obtain ⟨svp', hs, hnew, y0, y1, B2, zz2, K2, F2⟩ := hcut
    have hkp' : p ≠ k := fun e => hkp e.symm
    have hrk2 : (N.set p (dropN rp k))[k]? = some rk := by rw [List.getElem?_set_ne hkp']; exact hrk
    obtain ⟨_, svk, hrk3, hsvk⟩ := hs.at hkn
    rw [hrk2] at hrk3
    obtain rfl := Option.some.inj hrk3
    obtain ⟨e0, sa, sc, rfl, er⟩ := hs.row hsvk
    obtain ⟨_, e1, _, _, _⟩ := hs.cells
    have hsvk0 : ys[k]? = some ⟨nats rk, .slice sa rk.length sc⟩ := by rw [List.getElem?_set_ne hkp'] at hsvk; exact hsvk
    have q0' := y0.cell
    have HS := hid (And.intro hs (And.intro hsvk (And.intro y0 (And.intro y1 (And.intro B2 (And.intro hnew (And.intro hsvk0 (And.intro K2 F2))))))))
    have HER := hid er
    have hkb : ∀ b off, sa = some ⟨b, off, none⟩ → b < w.heap.size := fun b off e => HIN.out _ (List.mem_of_getElem? hsvk0) b (by rw [e]; rfl) |>.1
    clear hs hsvk y0 y1 B2 hnew hsvk0 er H1 HD2 hrk2 hrk3 d0 d1 q0 q1
    go_wp2_with (go_at_call 67; refine (all_any _ _ _ _).mono ?_; rintro e w' ⟨rfl, rfl⟩)
    refine (wpIn_wide (n := 8)).1 ?_
    obtain ⟨W3, hW3⟩ : ∃ W3, ((W2.alloc (Obj.cells #[Value.slice sa rk.length sc] 54)).alloc (Obj.cells #[Value.slice sa rk.length sc] 42)) = W3 := ⟨_, rfl⟩
    have zW : W3.heap.size = W2.heap.size + 2 := by rw [← hW3]; simp
    have bW : Below W2.heap.size W2 W3 := by rw [← hW3]; exact below2 _ _ _
    have xg : W3.cell? ⟨W2.heap.size + 1, 0, none⟩ = some (.slice sa rk.length sc) := by
      rw [← hW3]
      have := Boxed.new (W2.alloc (Obj.cells #[Value.slice sa rk.length sc] 54)) 42 (.slice sa rk.length sc)
      simp only [World.size_alloc] at this
      exact this.cell
    rw [hW3]
    clear hW3
    refine range_own2 rfl (by omega) (gf := 109) (lb := #[.pointer (some ⟨W2.heap.size + 1, 0, none⟩)]) rfl trivial (enters_of Try.func109 (by kernel_rfl) rfl)
      (values_own2 (fun x : Nat => (x : Int)) _ (by omega) (W2.heap.size + 1) sa sc rk (by omega) (fun j => j < w.heap.size ∧ (Value.slice sa rk.length sc).ownBlock = some j) (fun b off e => ⟨hkb b off e, by rw [e]; rfl⟩) W3 (HER.out.below bW) (by omega) xg) (fun j hj => by have := hj.1; omega) (Below.refl _ _) (fun _ => rfl)
      (fun T pre V => TakeI w C B tb pb n c nv' (dropN ns k) N p k rk (.slice sa rk.length sc) (addAll (dropN rp k) pre) T V ∧ W3.heap.size ≤ T)
      (fun _ _ _ => False)
      (fun T s A A' row hs hg hr => ⟨hs.1.grown hB hg (fun r e => ⟨by have := (hr r e).1; omega, (hr r e).2⟩), hs.2⟩)
      (fun _ _ _ _ _ hs _ _ => hs)
      (fun W' hg => ⟨(take_start hB HS.out.1 hrp HS.out.2.1 hkp HS.out.2.2.1 HS.out.2.2.2.1 HS.out.2.2.2.2.1 HS.out.2.2.2.2.2.1 (fun b hb => HIN.out _ (List.mem_of_getElem? HSVP.out) b hb) bW hg zz2 ⟨hp.2, hpC⟩ HS.out.2.2.2.2.2.2.2.1 HS.out.2.2.2.2.2.2.2.2), hg.size⟩)
      (fun x => { tmps := #[Value.pointer (some { block := tb, off := 0 }), Value.int IntKind.i64 ↑k, Value.int IntKind.i64 ↑p, Value.pointer (some { block := w.heap.size, off := 0 }), undef, Value.pointer (some { block := w.heap.size + 1, off := 0 }), .int .i64 (x : Int), Value.pointer (some { block := tb, off := 0 }), Value.pointer (some { block := tb, off := 0 }), Value.pointer (some { block := tb, off := 0 }), Value.int IntKind.i64 ↑k, Value.tuple #[], u12, u13, u14, u15, u16, u17, u18, u19, Value.pointer (some { block := tb, off := 0 }), Value.pointer (some { block := tb, off := 0 }), Value.pointer (some { block := tb, off := 1 }), Value.slice (some { block := pb, off := 0 }) n c, Value.int IntKind.i64 ↑k, Value.pointer (some { block := pb, off := k }), Value.agg #[Value.slice sa rk.length sc], Value.func (Fn.func 109) #[] #[Value.pointer (some { block := W2.heap.size + 1, off := 0 })], .int .i64 (x : Int), undef, undef, undef, undef, undef, undef, undef, undef], defers := [] }) ?assign ?body ?done ?stop
    case assign =>
      intro l x W K hK
      gi_wp2
      exact hK
    case body =>
      rintro l T pre x V hT ⟨⟨ys', h1, h2, h3, h4, h5, h6, h7, h9, hpn', hpb, hko, hfr⟩, h8⟩ hlen hSp
      have HAS := hid (addAll_snoc (dropN rp k) pre x)
      obtain ⟨s, hs⟩ : ∃ s, addAll (dropN rp k) pre = s := ⟨_, rfl⟩
      rw [hs] at h1 HAS
      have hNp : (N.set p s)[p]? = some s := List.getElem?_set_self (by have := h1.isN.1; rw [List.length_set] at this; omega)
      obtain ⟨_, sv, hr', hsv⟩ := h1.at hpn
      rw [hNp] at hr'
      obtain rfl := Option.some.inj hr'
      have hsf := h1.isN.few hNp
      have hf := h1.front hsv
      have HA := hid (add_any 54 1 pb n c p (vals ys') sv s x _ B V.drew (by have := Sep.below hf (bdr (Below.refl _ V)); simp only [nats_length] at this; exact this) (by simp [vals, hsv]) (h1.isN.2 p s hNp).1 (by omega) (show B ≤ V.heap.size by omega))
      have c4 := h4.cell
      have c5 := h5.cell
      obtain ⟨_, c6, _, _, _⟩ := h1.cells
      have hxk : x ∈ rk := hSp.subset (by simp)
      have HX : Hid (x < n) := (HS.out.1.isN.2 k rk (by rw [List.getElem?_set_ne hkp']; exact hrk)).2 x hxk
      have HQ := hid (And.intro h1 (And.intro h2 (And.intro h3 (And.intro h4 (And.intro h5 (And.intro h6 (And.intro h7 (And.intro h9 (And.intro hpn' (And.intro hpb (And.intro hko hfr)))))))))))
      have HSV := hid hsv
      clear h1 h2 h3 h4 h5 h6 hf hsv hr' hs hSp hxk hNp
      gi_wp2_with fail
      refine region_round rfl (by kernel_rfl) (by kernel_rfl) ?_
      refine wpAnyIn_take (i := 6) (v := ?_) rfl rfl (by kernel_rfl) (by kernel_rfl) (by kernel_rfl) (fun _ _ _ h => h) ⟨Or.inl ⟨by rfl, ?_⟩, fun _ => rfl⟩ ?_
      rotate_left
      focus (intro w; go_simp; first | done | with_reducible rfl)
      refine wpAnyIn_ready (rs := [0, 4]) (by kernel_rfl) (by simp) ?_
      refine AllReadyIn.cons rfl (fun K hK => ?_) ?_
      · go_simp
        refine hK _ _ ?_
        try clear hK K
        refine wpAnyIn_ready (rs := [1, 4]) (by kernel_rfl) (by simp) ?_
        refine AllReadyIn.cons rfl (fun K hK => ?_) ?_
        · go_simp
          refine hK _ _ ?_
          try clear hK K
          refine wpAnyIn_take (i := 2) (v := ?_) rfl rfl (by kernel_rfl) (by kernel_rfl) (by kernel_rfl) (fun _ _ _ h => h) ⟨Or.inl ⟨by rfl, ?_⟩, fun _ => rfl⟩ ?_
          rotate_left
          focus (intro w; go_simp; first | done | with_reducible rfl)
          refine wpAnyIn_ready (rs := [3, 4]) (by kernel_rfl) (by simp) ?_
          refine AllReadyIn.cons rfl (fun K hK => ?_) ?_
          · go_simp
            refine hK _ _ ?_
            try clear hK K
            refine wpAnyIn_ready (rs := [4]) (by kernel_rfl) (by simp) ?_
            refine AllReadyIn.cons rfl (fun K hK => ?_) AllReadyIn.nil
            go_simp
            refine hK _ _ ?_
            try clear hK K
            refine wpAnyIn_ready (rs := [5]) (by kernel_rfl) (by simp) ?_
            refine AllReadyIn.cons rfl (fun K hK => ?_) AllReadyIn.nil
            go_simp
            refine hK _ _ ?_
            try clear hK K
            refine wpAnyIn_ready (rs := [7]) (by kernel_rfl) (by simp) ?_
            refine AllReadyIn.cons rfl (fun K hK => ?_) AllReadyIn.nil
            go_simp
            gi_wp2_with (refine ⟨trivial, ?_⟩; gi_at_call 81; refine (callsIn_wide.2 HA.out).mono ?_; rintro e Z ⟨rfl, sv2, hs2, ho2, hn2⟩)
            try (refine hK _ _ ?_)
            try clear hK K
            refine wpAnyIn_done (by kernel_rfl) ?_ _
            gi_wp2_with fail
            obtain ⟨k1, k2, k3⟩ := take_leaf (A0 := W3.heap.size) hB (by omega) HQ.out HSV.out (by omega) hkp HX.out hs2 ho2 hn2; exact ⟨k1, k2, by rw [HAS.out]; exact k3, h8⟩
          refine AllReadyIn.cons rfl (fun K hK => ?_) ?_
          · go_simp
            refine hK _ _ ?_
            try clear hK K
            refine wpAnyIn_ready (rs := [3]) (by kernel_rfl) (by simp) ?_
            refine AllReadyIn.cons rfl (fun K hK => ?_) AllReadyIn.nil
            go_simp
            refine hK _ _ ?_
            try clear hK K
            refine wpAnyIn_ready (rs := [5]) (by kernel_rfl) (by simp) ?_
            refine AllReadyIn.cons rfl (fun K hK => ?_) AllReadyIn.nil
            go_simp
            refine hK _ _ ?_
            try clear hK K
            refine wpAnyIn_ready (rs := [7]) (by kernel_rfl) (by simp) ?_
            refine AllReadyIn.cons rfl (fun K hK => ?_) AllReadyIn.nil
            go_simp
            gi_wp2_with (refine ⟨trivial, ?_⟩; gi_at_call 81; refine (callsIn_wide.2 HA.out).mono ?_; rintro e Z ⟨rfl, sv2, hs2, ho2, hn2⟩)
            try (refine hK _ _ ?_)
            try clear hK K
            refine wpAnyIn_done (by kernel_rfl) ?_ _
            gi_wp2_with fail
            obtain ⟨k1, k2, k3⟩ := take_leaf (A0 := W3.heap.size) hB (by omega) HQ.out HSV.out (by omega) hkp HX.out hs2 ho2 hn2; exact ⟨k1, k2, by rw [HAS.out]; exact k3, h8⟩
          exact AllReadyIn.nil
        refine AllReadyIn.cons rfl (fun K hK => ?_) ?_
        · go_simp
          refine hK _ _ ?_
          try clear hK K
          refine wpAnyIn_ready (rs := [1]) (by kernel_rfl) (by simp) ?_
          refine AllReadyIn.cons rfl (fun K hK => ?_) AllReadyIn.nil
          go_simp
          refine hK _ _ ?_
          try clear hK K
          refine wpAnyIn_take (i := 2) (v := ?_) rfl rfl (by kernel_rfl) (by kernel_rfl) (by kernel_rfl) (fun _ _ _ h => h) ⟨Or.inl ⟨by rfl, ?_⟩, fun _ => rfl⟩ ?_
          rotate_left
          focus (intro w; go_simp; first | done | with_reducible rfl)
          refine wpAnyIn_ready (rs := [3]) (by kernel_rfl) (by simp) ?_
          refine AllReadyIn.cons rfl (fun K hK => ?_) AllReadyIn.nil
          go_simp
          refine hK _ _ ?_
          try clear hK K
          refine wpAnyIn_ready (rs := [5]) (by kernel_rfl) (by simp) ?_
          refine AllReadyIn.cons rfl (fun K hK => ?_) AllReadyIn.nil
          go_simp
          refine hK _ _ ?_
          try clear hK K
          refine wpAnyIn_ready (rs := [7]) (by kernel_rfl) (by simp) ?_
          refine AllReadyIn.cons rfl (fun K hK => ?_) AllReadyIn.nil
          go_simp
          gi_wp2_with (refine ⟨trivial, ?_⟩; gi_at_call 81; refine (callsIn_wide.2 HA.out).mono ?_; rintro e Z ⟨rfl, sv2, hs2, ho2, hn2⟩)
          try (refine hK _ _ ?_)
          try clear hK K
          refine wpAnyIn_done (by kernel_rfl) ?_ _
          gi_wp2_with fail
          obtain ⟨k1, k2, k3⟩ := take_leaf (A0 := W3.heap.size) hB (by omega) HQ.out HSV.out (by omega) hkp HX.out hs2 ho2 hn2; exact ⟨k1, k2, by rw [HAS.out]; exact k3, h8⟩
        exact AllReadyIn.nil
      refine AllReadyIn.cons rfl (fun K hK => ?_) ?_
      · go_simp
        refine hK _ _ ?_
        try clear hK K
        refine wpAnyIn_ready (rs := [0]) (by kernel_rfl) (by simp) ?_
        refine AllReadyIn.cons rfl (fun K hK => ?_) AllReadyIn.nil
        go_simp
        refine hK _ _ ?_
        try clear hK K
        refine wpAnyIn_ready (rs := [1]) (by kernel_rfl) (by simp) ?_
        refine AllReadyIn.cons rfl (fun K hK => ?_) AllReadyIn.nil
        go_simp
        refine hK _ _ ?_
        try clear hK K
        refine wpAnyIn_take (i := 2) (v := ?_) rfl rfl (by kernel_rfl) (by kernel_rfl) (by kernel_rfl) (fun _ _ _ h => h) ⟨Or.inl ⟨by rfl, ?_⟩, fun _ => rfl⟩ ?_
        rotate_left
        focus (intro w; go_simp; first | done | with_reducible rfl)
        refine wpAnyIn_ready (rs := [3]) (by kernel_rfl) (by simp) ?_
        refine AllReadyIn.cons rfl (fun K hK => ?_) AllReadyIn.nil
        go_simp
        refine hK _ _ ?_
        try clear hK K
        refine wpAnyIn_ready (rs := [5]) (by kernel_rfl) (by simp) ?_
        refine AllReadyIn.cons rfl (fun K hK => ?_) AllReadyIn.nil
        go_simp
        refine hK _ _ ?_
        try clear hK K
        refine wpAnyIn_ready (rs := [7]) (by kernel_rfl) (by simp) ?_
        refine AllReadyIn.cons rfl (fun K hK => ?_) AllReadyIn.nil
        go_simp
        gi_wp2_with (refine ⟨trivial, ?_⟩; gi_at_call 81; refine (callsIn_wide.2 HA.out).mono ?_; rintro e Z ⟨rfl, sv2, hs2, ho2, hn2⟩)
        try (refine hK _ _ ?_)
        try clear hK K
        refine wpAnyIn_done (by kernel_rfl) ?_ _
        gi_wp2_with fail
        obtain ⟨k1, k2, k3⟩ := take_leaf (A0 := W3.heap.size) hB (by omega) HQ.out HSV.out (by omega) hkp HX.out hs2 ho2 hn2; exact ⟨k1, k2, by rw [HAS.out]; exact k3, h8⟩
      exact AllReadyIn.nil
    case done =>
      rintro D T xs V hD rfl ⟨hI, h8⟩ hK
      obtain ⟨ys', h1, h2, h3, h4, h5, h6, h7, h9, hpn', hpb, hko, hfr⟩ := hI
      go_wp2
      refine ⟨by simp, .inl ⟨_, _, rfl, run_takeDeferred hK, ?_⟩⟩
      exact ⟨.tuple #[], by simp [results, Try.results84, go_sem], rfl, nv', ys', ⟨Sep.calm h1.sep (grownBy_putObj' _ D _) (fun r e => by cases e; exact ⟨_, hK, rfl⟩), h1.lst, h1.isN, h1.rise, h1.lt⟩, h6.trans ((belowK_b (w := w) (Nat.le_refl _) _ D _ _ (by omega) hK rfl rfl).mono hB), keeps_grown hko (grownBy_putObj' _ D _) (fun r e => by cases e; omega), fun j a b => ((grownBy_putObj' V D (.deferred none)).block j (by have := h6.size; omega) (fun e => by cases e; omega)).trans (hfr j a b)⟩
    case stop =>
      rintro D cd pre V _ _ h _
      exact h.elim
end Go.Proofs.Ythcenlplfcbfjaa
