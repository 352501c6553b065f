/- A graph that becomes smaller, as it lies in memory; edges of nodes to themselves go. -/
import Derived.Test.YthcenlplfcbfjaaDrop8
import Derived.Test.YthcenlplfcbfjaaOwn8
namespace Go.Proofs.Ythcenlplfcbfjaa
open Go Go.RowKit Go.Shelf
attribute [local go_sem] Oper.semAt_some
set_option linter.unusedVariables false
set_option linter.unusedSimpArgs false
set_option maxRecDepth 100000

theorem Sep.perm {w : World} {B : Nat} {l m : List OR} (h : Sep w B l) (hp : l.Perm m) : Sep w B m := ⟨fun x hx => h.1 x (hp.mem_iff.2 hx), hp.pairwise h.2 (fun {a b} hab => apt.symm hab)⟩
/-- sets of numbers below so many -/
def IsN (n : Nat) (N : List (List Nat)) : Prop := N.length = n ∧ ∀ (a : Nat) r, N[a]? = some r → r.Pairwise (· < ·) ∧ ∀ x ∈ r, x < n
theorem IsN.few {n : Nat} {N : List (List Nat)} (h : IsN n N) {a : Nat} {r : List Nat} (hr : N[a]? = some r) : r.length ≤ n := nodup_le (n := n) (rising_nodup (h.2 a r hr).1) (h.2 a r hr).2
theorem IsN.set {n : Nat} {N : List (List Nat)} (h : IsN n N) {a : Nat} {r : List Nat} (h1 : r.Pairwise (· < ·)) (h2 : ∀ x ∈ r, x < n) : IsN n (N.set a r) := by
  refine ⟨by simp [h.1], fun b s hs => ?_⟩
  by_cases e : b = a
  · subst e
    rw [List.getElem?_set] at hs
    simp at hs
    obtain ⟨_, rfl⟩ := hs
    exact ⟨h1, h2⟩
  · rw [List.getElem?_set_ne (fun h => e h.symm)] at hs
    exact h.2 b s hs
def rowsShr (tb pb n c : Nat) (nv : Value) (ns : List Nat) (ys : List LV) : List OR := cellOR 57 2 tb [nv, .slice (some ⟨pb, 0, none⟩) n c] :: ⟨3, 1, nv, ns.length, ints (nats ns)⟩ :: ⟨54, 1, .slice (some ⟨pb, 0, none⟩) n c, n, vals ys⟩ :: ys.map rowL
/-- the two rows and the sets of a graph that becomes smaller -/
structure Shr (w : World) (B tb pb n c : Nat) (nv : Value) (ns : List Nat) (ys : List LV) (N : List (List Nat)) : Prop where
  sep : Sep w B (rowsShr tb pb n c nv ns ys)
  lst : lists ys = natsL N
  isN : IsN n N
  rise : ns.Pairwise (· < ·)
  lt : ∀ x ∈ ns, x < n
theorem Shr.len {w : World} {B tb pb n c : Nat} {nv : Value} {ns : List Nat} {ys : List LV} {N : List (List Nat)} (h : Shr w B tb pb n c nv ns ys N) : ys.length = n := by
  have := congrArg List.length h.lst
  rw [lists_length] at this
  simp [natsL, h.isN.1] at this
  exact this
theorem Shr.below {w w' : World} {B tb pb n c : Nat} {nv : Value} {ns : List Nat} {ys : List LV} {N : List (List Nat)} (h : Shr w B tb pb n c nv ns ys N) (hb : Below w.heap.size w w') : Shr w' B tb pb n c nv ns ys N := ⟨h.sep.below hb, h.lst, h.isN, h.rise, h.lt⟩
theorem Shr.nfew {w : World} {B tb pb n c : Nat} {nv : Value} {ns : List Nat} {ys : List LV} {N : List (List Nat)} (h : Shr w B tb pb n c nv ns ys N) : ns.length ≤ n := nodup_le (n := n) (rising_nodup h.rise) h.lt
/-- one set ahead of the others -/
theorem Shr.front {w : World} {B tb pb n c : Nat} {nv : Value} {ns : List Nat} {ys : List LV} {N : List (List Nat)} (h : Shr w B tb pb n c nv ns ys N) {a : Nat} {y : LV} (hy : ys[a]? = some y) : Sep w B (⟨54, 1, .slice (some ⟨pb, 0, none⟩) n c, n, vals ys⟩ :: ⟨3, 1, y.v, y.r.length, ints y.r⟩ :: (cellOR 57 2 tb [nv, .slice (some ⟨pb, 0, none⟩) n c] :: ⟨3, 1, nv, ns.length, ints (nats ns)⟩ :: ((ys.take a).map rowL ++ (ys.drop (a + 1)).map rowL))) := by
  have e : ys.map rowL = (ys.take a).map rowL ++ rowL y :: (ys.drop (a + 1)).map rowL := by
    conv => lhs; rw [splitL hy]
    simp
  have h1 := h.sep
  unfold rowsShr at h1
  rw [e] at h1
  have h2 := h1.perm (((List.perm_middle.cons _).cons _).cons _)
  exact h2.perm (List.perm_append_comm_assoc [cellOR 57 2 tb [nv, .slice (some ⟨pb, 0, none⟩) n c], ⟨3, 1, nv, ns.length, ints (nats ns)⟩] [⟨54, 1, .slice (some ⟨pb, 0, none⟩) n c, n, vals ys⟩, rowL y] _)
theorem shr_back {w : World} {B tb pb n c : Nat} {nv : Value} {ns : List Nat} {ys : List LV} {a : Nat} {y y' : LV} (hy : ys[a]? = some y) (h : Sep w B (⟨54, 1, .slice (some ⟨pb, 0, none⟩) n c, n, (vals ys).set a y'.v⟩ :: ⟨3, 1, y'.v, y'.r.length, ints y'.r⟩ :: (cellOR 57 2 tb [nv, .slice (some ⟨pb, 0, none⟩) n c] :: ⟨3, 1, nv, ns.length, ints (nats ns)⟩ :: ((ys.take a).map rowL ++ (ys.drop (a + 1)).map rowL)))) : Sep w B (rowsShr tb pb n c nv ns (ys.set a y')) := by
  have hj := (List.getElem?_eq_some_iff.1 hy).1
  have e : (ys.set a y').map rowL = (ys.take a).map rowL ++ rowL y' :: (ys.drop (a + 1)).map rowL := by
    rw [List.set_eq_take_append_cons_drop, if_pos hj]
    simp
  have ev : vals (ys.set a y') = (vals ys).set a y'.v := by simp [vals, List.map_set]
  have h2 := h.perm (List.perm_append_comm_assoc [⟨54, 1, .slice (some ⟨pb, 0, none⟩) n c, n, (vals ys).set a y'.v⟩, rowL y'] [cellOR 57 2 tb [nv, .slice (some ⟨pb, 0, none⟩) n c], ⟨3, 1, nv, ns.length, ints (nats ns)⟩] _)
  have h3 : Sep w B (cellOR 57 2 tb [nv, .slice (some ⟨pb, 0, none⟩) n c] :: ⟨3, 1, nv, ns.length, ints (nats ns)⟩ :: ⟨54, 1, .slice (some ⟨pb, 0, none⟩) n c, n, (vals ys).set a y'.v⟩ :: rowL y' :: ((ys.take a).map rowL ++ (ys.drop (a + 1)).map rowL)) := h2
  unfold rowsShr
  rw [e, ev]
  exact h3.perm (((List.perm_middle.symm.cons _).cons _).cons _)
/-- a set has turned -/
theorem Shr.turn {w w' : World} {B tb pb n c : Nat} {nv : Value} {ns : List Nat} {ys : List LV} {N : List (List Nat)} (h : Shr w B tb pb n c nv ns ys N) {a : Nat} {r r' : List Nat} {sv sv' : Value} (hy : ys[a]? = some ⟨nats r, sv⟩) (h1 : r'.Pairwise (· < ·)) (h2 : ∀ x ∈ r', x < n) (hs : Sep w' B (⟨54, 1, .slice (some ⟨pb, 0, none⟩) n c, n, (vals ys).set a sv'⟩ :: ⟨3, 1, sv', r'.length, ints (nats r')⟩ :: (cellOR 57 2 tb [nv, .slice (some ⟨pb, 0, none⟩) n c] :: ⟨3, 1, nv, ns.length, ints (nats ns)⟩ :: ((ys.take a).map rowL ++ (ys.drop (a + 1)).map rowL)))) : Shr w' B tb pb n c nv ns (ys.set a ⟨nats r', sv'⟩) (N.set a r') :=
  ⟨shr_back (y' := ⟨nats r', sv'⟩) hy (by simpa [nats_length] using hs), by rw [lists_set, h.lst, natsL_set], h.isN.set h1 h2, h.rise, h.lt⟩
theorem Shr.at {w : World} {B tb pb n c : Nat} {nv : Value} {ns : List Nat} {ys : List LV} {N : List (List Nat)} (h : Shr w B tb pb n c nv ns ys N) {a : Nat} (ha : a < n) : ∃ r sv, N[a]? = some r ∧ ys[a]? = some ⟨nats r, sv⟩ := by
  obtain ⟨r, hr⟩ : ∃ r, N[a]? = some r := ⟨_, List.getElem?_eq_getElem (by rw [h.isN.1]; exact ha)⟩
  obtain ⟨sv, hsv⟩ := own_of_lists h.lst hr
  exact ⟨r, sv, hr, hsv⟩
/-- the cells of the two rows, and the blocks -/
theorem Shr.cells {w : World} {B tb pb n c : Nat} {nv : Value} {ns : List Nat} {ys : List LV} {N : List (List Nat)} (h : Shr w B tb pb n c nv ns ys N) : w.cell? ⟨tb, 0, none⟩ = some nv ∧ w.cell? ⟨tb, 1, none⟩ = some (.slice (some ⟨pb, 0, none⟩) n c) ∧ (∃ na nc, nv = .slice na ns.length nc ∧ Row w na (nats ns)) ∧ (B ≤ tb ∧ tb < w.heap.size) ∧ (B ≤ pb ∧ pb < w.heap.size) := by
  have ho := Sep.get h.sep (x := ⟨3, 1, nv, ns.length, ints (nats ns)⟩) (by simp [rowsShr])
  refine ⟨Sep.cell h.sep (x := cellOR 57 2 tb [nv, .slice (some ⟨pb, 0, none⟩) n c]) (by simp [rowsShr]) rfl rfl, Sep.cell h.sep (x := cellOR 57 2 tb [nv, .slice (some ⟨pb, 0, none⟩) n c]) (by simp [rowsShr]) rfl rfl, ?_, Sep.size h.sep (x := cellOR 57 2 tb [nv, .slice (some ⟨pb, 0, none⟩) n c]) (by simp [rowsShr]) rfl, Sep.size h.sep (x := ⟨54, 1, .slice (some ⟨pb, 0, none⟩) n c, n, vals ys⟩) (by simp [rowsShr]) rfl⟩
  obtain ⟨na, nc, e⟩ := slice_of_owned ho
  simp only [] at e
  subst e
  exact ⟨na, nc, rfl, own_row (c := nc) (by rw [nats_length]; exact ho)⟩
/-- edges of so many nodes to themselves are gone -/
def SelfLess (pre : List Nat) (N N' : List (List Nat)) : Prop := N'.length = N.length ∧ ∀ (a : Nat) r, N[a]? = some r → N'[a]? = some (if a ∈ pre then dropN r a else r)
theorem SelfLess.begin (N : List (List Nat)) : SelfLess [] N N := ⟨rfl, fun a r hr => by simp [hr]⟩
theorem dropN_twice (r : List Nat) (a : Nat) : dropN (dropN r a) a = dropN r a := dropN_none (by rw [mem_dropN]; exact fun h => h.2 rfl)
theorem SelfLess.step {pre : List Nat} {N N' : List (List Nat)} (h : SelfLess pre N N') {x : Nat} {r : List Nat} (hr : N'[x]? = some r) : SelfLess (pre ++ [x]) N (N'.set x (dropN r x)) := by
  have hx := (List.getElem?_eq_some_iff.1 hr).1
  refine ⟨by simp [h.1], fun a q hq => ?_⟩
  by_cases e : a = x
  · subst e
    rw [List.getElem?_set_self hx, if_pos (by simp)]
    have := h.2 a q hq
    rw [hr] at this
    have := Option.some.inj this
    rw [this]
    split
    · rw [dropN_twice]
    · rfl
  · rw [List.getElem?_set_ne (fun h => e h.symm), h.2 a q hq]
    have : (a ∈ pre ++ [x]) ↔ a ∈ pre := by simp [e]
    simp only [this]
set_option maxHeartbeats 4000000 in
theorem dropSelf_any (B tb pb n c : Nat) (nv : Value) (ns : List Nat) (ys : List LV) (N : List (List Nat)) (C : Nat) (w : World) (hn : n ≤ 12) (hB : B ≤ w.heap.size) (h : Shr w B tb pb n c nv ns ys N) (hC1 : pb < C) (hC2 : ∀ y ∈ ys, ∀ b, y.v.ownBlock = some b → b < C) :
    Calls Try.prog 82 #[.pointer (some ⟨tb, 0, none⟩)] w fun e w' => e = .returned (.tuple #[]) ∧ ∃ ys' N', Shr w' B tb pb n c nv ns ys' N' ∧ SelfLess ns N N' ∧ Below B w w' ∧ (∀ y ∈ ys', ∀ b, y.v.ownBlock = some b → b < C) ∧ ∀ j, C ≤ j → j < w.heap.size → w'.heap[j]? = w.heap[j]? := by
  obtain ⟨c0, c1, ⟨na, nc, rfl, hrow⟩, ht, hp⟩ := h.cells
  have hnl := h.nfew
  have H := hid h
  have HRW := hid hrow
  clear h hrow
  refine (callsIn_wide (n := 8)).1 ?_
  refine callsIn_of_wp_marks Try.func82 rfl trivial ?_ rfl
  simp only [Try.ntmps82, List.size_toArray, List.length_cons, List.length_nil, Nat.reduceAdd, Nat.reduceSub, Array.replicate_succ, Array.replicate_zero, List.push_toArray, List.append_toArray, List.nil_append, List.cons_append]
  gi_wp2_with (refine ⟨trivial, ?_⟩; gi_at_call 67; refine (callsIn_wide.2 (all_any _ _ _ _)).mono ?_; rintro e w' ⟨rfl, rfl⟩)
  obtain ⟨W0, hW0⟩ : ∃ W0, (((w.alloc (Obj.cells #[Value.pointer (some ⟨tb, 0, none⟩)] 100)).alloc (Obj.cells #[Value.slice na ns.length nc] 54)).alloc (Obj.cells #[Value.slice na ns.length nc] 42)) = W0 := ⟨_, rfl⟩
  have zW : W0.heap.size = w.heap.size + 3 := by rw [← hW0]; simp
  have bW : Below w.heap.size w W0 := by rw [← hW0]; exact below3 _ _ _ _
  have xb : Boxed W0 w.heap.size 100 (.pointer (some ⟨tb, 0, none⟩)) := by rw [← hW0]; exact ((Boxed.new w 100 _).alloc _).alloc _
  have xg : W0.cell? ⟨w.heap.size + 1 + 1, 0, none⟩ = some (.slice na ns.length nc) := by
    rw [← hW0]
    have := Boxed.new ((w.alloc (Obj.cells #[Value.pointer (some ⟨tb, 0, none⟩)] 100)).alloc (Obj.cells #[Value.slice na ns.length nc] 54)) 42 (.slice na ns.length nc)
    simp only [World.size_alloc] at this
    exact this.cell
  rw [hW0]
  clear hW0
  have HSW := hid (H.out.below bW)
  have HIN : Hid (∀ y ∈ ys, ∀ b, y.v.ownBlock = some b → b < w.heap.size ∧ b < C) := fun y hy b hb => ⟨(Sep.size H.out.sep (x := rowL y) (by unfold rowsShr; simp; exact .inr (.inr (.inr ⟨y, hy, rfl⟩))) hb).2, hC2 y hy b hb⟩
  clear hC2
  refine range_own2 rfl (by omega) (gf := 109) (lb := #[.pointer (some ⟨w.heap.size + 1 + 1, 0, none⟩)]) rfl trivial (enters_of Try.func109 (by kernel_rfl) rfl)
    (values_own2 (fun x : Nat => (x : Int)) _ (by omega) (w.heap.size + 1 + 1) na nc ns (by omega) (fun k => k < w.heap.size ∧ ∃ off, na = some ⟨k, off, none⟩) (fun b off e => ⟨by have := Sep.size H.out.sep (x := ⟨3, 1, .slice na ns.length nc, ns.length, ints (nats ns)⟩) (by simp [rowsShr]) (g := b) (by rw [e]; rfl); exact this.2, off, e⟩) W0 (HRW.out.below bW) (by omega) xg) (fun k hk => by have := hk.1; omega) (Below.refl _ _) (fun _ => rfl)
    (fun T pre V => ∃ ys' N', Shr V B tb pb n c (.slice na ns.length nc) ns ys' N' ∧ SelfLess pre N N' ∧ (∀ y ∈ ys', ∀ b, y.v.ownBlock = some b → b < w.heap.size ∧ b < C) ∧ Boxed V w.heap.size 100 (.pointer (some ⟨tb, 0, none⟩)) ∧ Below B w V ∧ T ≤ V.heap.size ∧ W0.heap.size ≤ T ∧ ∀ j, C ≤ j → j < w.heap.size → V.heap[j]? = w.heap[j]?)
    (fun _ _ _ => False)
    (fun T s A A' row hs hg hr => by
      obtain ⟨ys', N', h1, h2, h3, h4, h5, h6, h7, h8⟩ := hs
      exact ⟨ys', N', ⟨Sep.calm h1.sep hg (fun r e => (hr r e).2), h1.lst, h1.isN, h1.rise, h1.lt⟩, h2, h3, h4.kept hg (fun e => by have := (hr _ e.symm).1; omega), h5.grown hg (Nat.le_trans hB h5.size) (fun k e => by have := (hr _ e).1; omega), Nat.le_trans h6 hg.size, h7, fun j hj1 hj2 => (hg.block j (by have := h5.size; omega) (fun e => by have := (hr _ e.symm).1; omega)).trans (h8 j hj1 hj2)⟩)
    (fun _ _ _ _ _ hs _ _ => hs)
    (fun W' hg => ⟨ys, N, ⟨Sep.calm HSW.out.sep hg (fun r e => by cases e), HSW.out.lst, HSW.out.isN, HSW.out.rise, HSW.out.lt⟩, SelfLess.begin _, HIN.out, xb.kept hg (by simp), (bW.mono hB).grown hg (by omega) (fun k e => by cases e), Nat.le_refl _, hg.size, fun j hj1 hj2 => (hg.block j (by omega) (fun e => by cases e)).trans (bW.block j hj2)⟩)
    (fun x => { tmps := #[Value.pointer (some { block := tb, off := 0 }), Value.pointer (some { block := w.heap.size, off := 0 }), .int .i64 (x : Int), Value.pointer (some { block := tb, off := 0 }), Value.pointer (some { block := tb, off := 0 }), Value.pointer (some { block := tb, off := 0 }), Value.agg #[Value.slice na ns.length nc], Value.func (Fn.func 109) #[] #[Value.pointer (some { block := w.heap.size + 1 + 1, off := 0 })], .int .i64 (x : Int), undef, undef, undef, undef, undef, undef, undef, undef], defers := [] }) ?assign ?body ?done ?stop
  case assign =>
    intro l x W K hK
    gi_wp2
    exact hK
  case body =>
    rintro l T pre x V hT ⟨ys', N', h1, h2, h3, h4, h5, h6, h7, h8⟩ hlen hSp
    have hxn : x < n := h1.lt x (hSp.subset (by simp))
    obtain ⟨r, sv, hr, hsv⟩ := h1.at hxn
    have hyl := h1.len
    have hrf := h1.isN.few hr
    have hf := h1.front hsv
    have HD := hid (drop_any 54 1 pb n c x (vals ys') sv r x _ B V (by have := hf; simp only [nats_length] at this; exact this) (by simp [vals, hsv]) (h1.isN.2 x r hr).1 (by omega))
    have c4 := h4.cell
    obtain ⟨d0, d1, _, dt, dp⟩ := h1.cells
    have HQ := hid (And.intro h1 (And.intro h2 (And.intro h3 (And.intro h4 (And.intro h5 (And.intro hr (And.intro hsv hSp)))))))
    clear h1 h2 h3 h4 h5 hr hsv hf hSp
    gi_wp2_with (refine ⟨trivial, ?_⟩; gi_at_call 100; refine (CallsIn.inRound l (callsIn_wide.2 HD.out)).mono ?_; rintro e Z ⟨rfl, sv', hs', honly, hnew⟩)
    obtain ⟨h1, h2, h3, h4, h5, hr, hsv, hSp⟩ := HQ.out
    have hsm := List.mem_of_getElem? hsv
    have hib : ∀ k, sv.ownBlock = some k → k < w.heap.size ∧ k < C := fun k hk => h3 _ hsm k hk
    have hrow := h1.sep.1 (rowL ⟨nats r, sv⟩) (by unfold rowsShr; simp; exact .inr (.inr (.inr ⟨_, hsm, rfl⟩)))
    have kind : ∀ k o, V.heap[k]? = some o → o.isCells = false → ¬ (k = pb ∨ sv.ownBlock = some k) := by
      rintro k o hk ho (e | e)
      · obtain ⟨c', fz, hc⟩ := own_kind (h1.sep.1 ⟨54, 1, .slice (some ⟨pb, 0, none⟩) n c, n, vals ys'⟩ (by simp [rowsShr])) (show (Value.slice (some ⟨pb, 0, none⟩) n c).ownBlock = some k by rw [e]; rfl)
        rw [hc] at hk; cases hk; simp [Obj.isCells] at ho
      · obtain ⟨c', fz, hc⟩ := own_kind hrow (show (rowL ⟨nats r, sv⟩).v.ownBlock = some k from e)
        rw [hc] at hk; cases hk; simp [Obj.isCells] at ho
    have hbelow : ∀ k, (k = pb ∨ sv.ownBlock = some k) → B ≤ k ∧ k < w.heap.size := by
      rintro k (e | e)
      · subst e; exact ⟨hp.1, hp.2⟩
      · exact ⟨(Sep.size h1.sep (x := rowL ⟨nats r, sv⟩) (by unfold rowsShr; simp; exact .inr (.inr (.inr ⟨_, hsm, rfl⟩))) e).1, (hib k e).1⟩
    have hfarC : ∀ k, (k = pb ∨ sv.ownBlock = some k) → k < C := by
      rintro k (e | e)
      · subst e; exact hC1
      · exact (hib k e).2
    have hnodes : ∀ k, (∃ off, na = some ⟨k, off, none⟩) → ¬ (k = pb ∨ sv.ownBlock = some k) := by
      rintro k ⟨off, e⟩ (e2 | e2)
      · have ha := (List.pairwise_cons.1 (List.pairwise_cons.1 h1.sep.2).2).1 ⟨54, 1, .slice (some ⟨pb, 0, none⟩) n c, n, vals ys'⟩ (by simp)
        subst e e2
        rcases ha with ha | ha
        · cases ha
        · exact ha rfl
      · have ha := (List.pairwise_cons.1 (List.pairwise_cons.1 h1.sep.2).2).1 (rowL ⟨nats r, sv⟩) (by simp; exact .inr ⟨_, hsm, rfl⟩)
        subst e
        rcases ha with ha | ha
        · cases ha
        · exact ha e2.symm
    refine ⟨⟨honly.size, fun k o hk ho => (honly.block k (Array.getElem?_eq_some_iff.1 hk).1 (kind k o hk ho)).trans hk⟩, ⟨⟨honly.os, honly.tape, honly.output, honly.size, fun k hk => absurd hk (by omega)⟩, fun k hk => ?_⟩, ys'.set x ⟨nats (dropN r x), sv'⟩, N'.set x (dropN r x), h1.turn hsv (dropN_rising (h1.isN.2 x r hr).1 x) (fun y hy => (h1.isN.2 x r hr).2 y (mem_dropN.1 hy).1) hs', h2.step hr, ?_, ?_, ?_, Nat.le_trans h6 honly.size, h7, fun j hj1 hj2 => (honly.block j (by omega) (fun e => by have := hfarC j e; omega)).trans (h8 j hj1 hj2)⟩
    · rcases hk with hk | hk
      · exact honly.block k (by have := hk.1; omega) (hnodes k hk.2)
      · by_cases hkV : k < V.heap.size
        · exact honly.block k hkV (fun e => by have := (hbelow k e).2; omega)
        · omega
    · intro y hy b hb
      rcases List.mem_or_eq_of_mem_set hy with hy | rfl
      · exact h3 y hy b hb
      · simp only [] at hb
        rw [hnew] at hb
        exact hib b hb
    · exact (honly.block w.heap.size (by omega) (fun e => by have := (hbelow _ e).2; omega)).trans h4
    · exact ⟨honly.os.trans h5.os, honly.tape.trans h5.tape, honly.output.trans h5.output, Nat.le_trans h5.size honly.size, fun k hk => (honly.block k (by have := h5.size; omega) (fun e => by have := (hbelow _ e).1; omega)).trans (h5.block k hk)⟩
  case done =>
    rintro D T xs V hD rfl ⟨ys', N', h1, h2, h3, h4, h5, h6, h7, h8⟩ hK
    gi_wp2
    refine ⟨by simp, .inl ⟨_, _, rfl, run_takeDeferred hK, ?_⟩⟩
    exact ⟨.tuple #[], by simp [results, Try.results82, go_sem], rfl, ys', N', ⟨Sep.calm h1.sep (grownBy_putObj' _ D _) (fun r e => by cases e; exact ⟨_, hK, rfl⟩), h1.lst, h1.isN, h1.rise, h1.lt⟩, h2, h5.trans ((belowK_b (w := w) (Nat.le_refl _) _ D _ _ (by omega) hK rfl rfl).mono hB), fun y hy b hb => (h3 y hy b hb).2, fun j hj1 hj2 => ((grownBy_putObj' V D (.deferred none)).block j (by have := h5.size; omega) (fun e => by cases e; omega)).trans (h8 j hj1 hj2)⟩
  case stop =>
    rintro D cd pre V _ _ h _
    exact h.elim
end Go.Proofs.Ythcenlplfcbfjaa
