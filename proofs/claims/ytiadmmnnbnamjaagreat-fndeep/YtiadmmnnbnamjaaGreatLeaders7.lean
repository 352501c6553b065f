/- The program's sets of those that lead to a node. -/
import Derived.Test.YtiadmmnnbnamjaaGreatCalm7
namespace Go.Proofs.YtiadmmnnbnamjaaGreat
open Go Go.RowKit Go.Shelf
attribute [local go_sem] Oper.semAt_some
set_option linter.unusedVariables false
set_option linter.unusedSimpArgs false
set_option maxRecDepth 100000

/-- rows of sets: who has come so far -/
def Came (n : Nat) (es : List (Nat × Nat)) (P : List (List Nat)) : Prop := P.length = n ∧ ∀ (k : Nat) r, P[k]? = some r → r.Pairwise (· < ·) ∧ ∀ x, x ∈ r ↔ (x, k) ∈ es
theorem Came.begin (n : Nat) : Came n [] (List.replicate n []) := by
  refine ⟨by simp, fun k r hr => ?_⟩
  obtain rfl : r = [] := List.eq_of_mem_replicate (List.mem_of_getElem? hr)
  exact ⟨List.Pairwise.nil, fun x => by simp⟩
theorem Came.add {n : Nat} {es : List (Nat × Nat)} {P : List (List Nat)} (h : Came n es P) {u v : Nat} {r : List Nat} (hr : P[v]? = some r) : Came n (es ++ [(u, v)]) (P.set v (putL r u)) := by
  have hv := (List.getElem?_eq_some_iff.1 hr).1
  refine ⟨by simp [h.1], fun k s hs => ?_⟩
  by_cases e : k = v
  · subst e
    rw [List.getElem?_set_self hv] at hs
    obtain rfl := Option.some.inj hs
    refine ⟨putL_rising (h.2 k r hr).1 u, fun x => ?_⟩
    rw [putL_mem, (h.2 k r hr).2 x]
    simp
    exact or_comm
  · rw [List.getElem?_set_ne (fun h => e h.symm)] at hs
    refine ⟨(h.2 k s hs).1, fun x => ?_⟩
    rw [(h.2 k s hs).2 x]
    simp [e]
/-- rows of sets, owned -/
def OwnS (w : World) (B : Nat) (v : Value) (ys : List LV) : Prop := Sep w B (⟨60, 1, v, ys.length, vals ys⟩ :: ys.map rowL)
theorem made_sets (n : Nat) : (madeCells #[Value.slice none 0 0] (n * 1)).toList = vals (noLists n) := by rw [Nat.mul_one]; exact made_lists n
theorem ownS_start {w : World} {B n g cap : Nat} (h : w.ownsRow B 60 1 (.slice (some ⟨g, 0, none⟩) n cap) n (vals (noLists n))) : OwnS w B (.slice (some ⟨g, 0, none⟩) n cap) (noLists n) := by
  refine ⟨fun x hx => ?_, List.pairwise_cons.2 ⟨fun x hx => ?_, ?_⟩⟩
  · rcases List.mem_cons.1 hx with rfl | hx
    · show World.ownsRow _ _ _ _ _ _ _
      rw [show (noLists n).length = n by simp [noLists]]
      exact h
    · obtain ⟨y, hy, rfl⟩ := List.mem_map.1 hx
      obtain rfl : y = ⟨[], .slice none 0 0⟩ := List.eq_of_mem_replicate hy
      exact World.ownsRow_nil _ _ _ _
  · obtain ⟨y, hy, rfl⟩ := List.mem_map.1 hx
    obtain rfl : y = ⟨[], .slice none 0 0⟩ := List.eq_of_mem_replicate hy
    right; intro he; cases he
  · rw [List.pairwise_map]
    refine List.Pairwise.imp_of_mem (R := fun _ _ => True) (fun {a b} ha hb _ => ?_) (List.pairwise_of_forall (fun _ _ => trivial))
    obtain rfl : a = ⟨[], .slice none 0 0⟩ := List.eq_of_mem_replicate ha
    exact .inl rfl
/-- one row ahead of the others -/
theorem ownS_front {w : World} {B : Nat} {v : Value} {ys : List LV} {j : Nat} {y : LV} (hy : ys[j]? = some y) (h : OwnS w B v ys) : Sep w B (⟨60, 1, v, ys.length, vals ys⟩ :: rowL y :: ((ys.take j).map rowL ++ (ys.drop (j + 1)).map rowL)) := by
  have e : ys.map rowL = (ys.take j).map rowL ++ rowL y :: (ys.drop (j + 1)).map rowL := by
    conv => lhs; rw [splitL hy]
    simp
  have hp : (⟨60, 1, v, ys.length, vals ys⟩ :: ys.map rowL : List OR).Perm (⟨60, 1, v, ys.length, vals ys⟩ :: rowL y :: ((ys.take j).map rowL ++ (ys.drop (j + 1)).map rowL)) := by
    rw [e]
    exact List.Perm.cons _ List.perm_middle
  exact ⟨fun x hx => h.1 x (hp.mem_iff.2 hx), hp.pairwise h.2 (fun {a b} hab => apt.symm hab)⟩
theorem ownS_back {w : World} {B : Nat} {v : Value} {ys : List LV} {j : Nat} {y y' : LV} (hy : ys[j]? = some y) (h : Sep w B (⟨60, 1, v, ys.length, (vals ys).set j y'.v⟩ :: rowL y' :: ((ys.take j).map rowL ++ (ys.drop (j + 1)).map rowL))) : OwnS w B v (ys.set j y') := by
  have hj := (List.getElem?_eq_some_iff.1 hy).1
  have e : (ys.set j y').map rowL = (ys.take j).map rowL ++ rowL y' :: (ys.drop (j + 1)).map rowL := by
    rw [List.set_eq_take_append_cons_drop, if_pos hj]
    simp
  have ev : vals (ys.set j y') = (vals ys).set j y'.v := by simp [vals, List.map_set]
  have hp : (⟨60, 1, v, ys.length, (vals ys).set j y'.v⟩ :: rowL y' :: ((ys.take j).map rowL ++ (ys.drop (j + 1)).map rowL) : List OR).Perm (⟨60, 1, v, ys.length, (vals ys).set j y'.v⟩ :: (ys.set j y').map rowL) := by
    rw [e]
    exact List.Perm.cons _ List.perm_middle.symm
  unfold OwnS
  rw [List.length_set, ev]
  exact ⟨fun x hx => h.1 x (hp.mem_iff.2 hx), hp.pairwise h.2 (fun {a b} hab => apt.symm hab)⟩
theorem wpListIn_made {F : Fence} {nF : Nat} {P : Program} (w : World) {ops : Array Oper} {rest : List Oper} {o : Oper} {a : Act} {Q : Exit → Act → World → Prop}
    (hg : o.guard = none) (l : Operand) (t : TypeId) (hop : o.op = Op.makeSlice t l l)
    (base : Nat) (e : TypeId) (i : TypeInfo) (z : Value) (size : Nat) (h1 : P.underlying t = some (.slice e)) (h2 : P.info? e = some i) (h3 : i.zero = some z) (h4 : i.size = size)
    (n : Nat) (hl : a.eval l = .int .i64 (n : Int)) (b2 : i.bytes * n ≤ 281474976710656) (b3 : n ≤ maxLen) (b4 : base ≤ w.heap.size)
    (hK : ∀ w', w'.ownsRow base e size (.slice (some ⟨w.heap.size, 0, none⟩) n n) n (madeCells z.cells (n * size)).toList → w.grownBy w' none → wpListIn F nF P ops Q rest (a.put o.dst (.slice (some ⟨w.heap.size, 0, none⟩) n n)) w') :
    wpListIn F nF P ops Q (o :: rest) a w := by
  refine wpListIn_plain hg fun K hK' => ?_
  obtain ⟨w', hrun, r1, r2⟩ := run_make_full (P := P) w base t e i z size h1 h2 h3 h4 .i64 .i64 n b2 b3 b4
  refine ⟨by simp [Oper.about, hop], ?_⟩
  rw [Oper.semAt_plain F _ _ (by rw [hop]; intro c hc'; cases hc')]
  simp [execOp, hop, hl, hrun, Result.andThen]
  exact hK' _ _ (hK w' r1 r2)
theorem own_kind {w : World} {B e size n g : Nat} {v : Value} {xs : List Value} (h : w.ownsRow B e size v n xs) (hv : v.ownBlock = some g) : ∃ c fz, w.heap[g]? = some (.cells c e fz) := by
  rcases h.2 with ⟨e1, _⟩ | ⟨g', cap, cur, e1, _, hgb, _⟩
  · rw [e1] at hv; cases hv
  · rw [e1] at hv; cases hv; exact ⟨_, _, hgb⟩
set_option maxHeartbeats 4000000 in
theorem leaders_any {g : List (List Nat)} (G : Gr g) (a : Option Addr) (c : Nat) (w : World) (h : GRow w a g) :
    Calls Tryz.prog 36 #[.agg #[.slice a g.length c]] w fun e w' => ∃ va vc ys P, e = .returned (.slice va g.length vc) ∧ OwnS w' w.heap.size (.slice va g.length vc) ys ∧ lists ys = natsL P ∧ Came g.length (edgesL g) P ∧ Below w.heap.size w w' := by
  obtain ⟨i0, hi, hz0, hz1, hz2⟩ := info_parts info58
  have hgm := G.most
  have H := hid h
  clear h
  refine (callsIn_wide (n := 8)).1 ?_
  refine callsIn_of_wp_marks Tryz.func36 rfl trivial ?_ rfl
  simp only [Tryz.ntmps36, List.size_toArray, List.length_cons, List.length_nil, Nat.reduceAdd, Nat.reduceSub, Array.replicate_succ, Array.replicate_zero, List.push_toArray, List.append_toArray, List.nil_append, List.cons_append]
  have b0 := below1 w (.cells #[.slice a g.length c] 25)
  have z0 : (w.alloc (.cells #[.slice a g.length c] 25)).heap.size = w.heap.size + 1 := by simp
  have c0 : (w.alloc (.cells #[.slice a g.length c] 25)).cell? ⟨w.heap.size, 0, none⟩ = some (.slice a g.length c) := by simp [go_sem]
  gi_wp2_with (first | (gi_at_make; refine wpListIn_made _ rfl _ 68 rfl (w.heap.size + 1) 60 i0 (.agg #[.slice none 0 0]) 1 Tryz.underlying68 hi hz0 hz1 g.length rfl (by rw [hz2]; omega) (by unfold maxLen; omega) (by simp) ?_; intro w1 hown1 hgrow1; have hB1 : Below (w.heap.size + 1) (w.alloc (.cells #[.slice a g.length c] 25)) w1 := (Below.refl _ _).grown hgrow1 (by omega) (fun k hk => by cases hk); have c1 : ∀ o, (w1.alloc o).cell? ⟨w.heap.size, 0, none⟩ = some (.slice a g.length c) := fun o => cell_below (by rw [hB1.cell (p := ⟨w.heap.size, 0, none⟩) (by show w.heap.size < _; omega)]; exact c0) (below1 w1 o)) | (refine ⟨trivial, ?_⟩; gi_at_call 39; refine (callsIn_wide.2 (edgesIn_any _ _ _ _)).mono ?_; rintro e w' ⟨rfl, rfl⟩))
  have hr1 : w.heap.size + 1 < w1.heap.size := (hown1.lt (w.heap.size + 1) (by rw [z0]; rfl)).2
  have BW1 : Below w.heap.size w w1 := b0.trans (hB1.mono (by omega))
  have HO1 : Hid (OwnS w1 (w.heap.size + 1) (.slice (some ⟨w.heap.size + 1, 0, none⟩) g.length g.length) (noLists g.length)) := by
    refine ownS_start ?_
    rw [z0] at hown1
    rw [← made_sets]
    exact hown1
  obtain ⟨X, hX⟩ : ∃ X, ((w1.alloc (Obj.cells #[Value.slice (some { block := w.heap.size + 1, off := 0 }) g.length g.length] 68)).alloc (Obj.cells #[Value.slice a g.length c] 25)) = X := ⟨_, rfl⟩
  have zX : X.heap.size = w1.heap.size + 2 := by rw [← hX]; simp
  have bX : Below w1.heap.size w1 X := by rw [← hX]; exact below2 _ _ _
  have xb : Boxed X w1.heap.size 68 (.slice (some ⟨w.heap.size + 1, 0, none⟩) g.length g.length) := by rw [← hX]; exact (Boxed.new w1 68 _).alloc _
  have xg : X.cell? ⟨w1.heap.size + 1, 0, none⟩ = some (.slice a g.length c) := by
    rw [← hX]
    have := Boxed.new (w1.alloc (Obj.cells #[Value.slice (some { block := w.heap.size + 1, off := 0 }) g.length g.length] 68)) 25 (.slice a g.length c)
    rw [World.size_alloc] at this
    exact this.cell
  rw [hX]
  have BX : Below w.heap.size w X := BW1.trans (bX.mono (by omega))
  have HOX := hid (Sep.below HO1.out bX)
  clear hX hown1 hgrow1 hB1 c1 HO1 c0 z0 b0
  refine range_own rfl (by omega) (gf := 78) (lb := #[.pointer (some ⟨w1.heap.size + 1, 0, none⟩)]) rfl trivial (enters_of Tryz.func78 (by kernel_rfl) rfl)
    (edges_own G a c (fun e => Lead g e.1 e.2) (edges_lead G) (order_lt G) (dfs_len G).1 _ (by omega) (w1.heap.size + 1) (fun k => k < w.heap.size ∨ k = w1.heap.size + 1) w X H.out BX (fun k hk => .inl hk) (.inr rfl) (fun k hk => by omega) xg) (fun k hk => by omega) (Below.refl _ _) (fun _ => rfl)
    (fun T pre V => ∃ ys P, OwnS V (w.heap.size + 1) (.slice (some ⟨w.heap.size + 1, 0, none⟩) g.length g.length) ys ∧ lists ys = natsL P ∧ Came g.length (pre.map (·.1)) P ∧ (∀ y ∈ ys, ∀ b, y.v.ownBlock = some b → T ≤ b) ∧ Boxed V w1.heap.size 68 (.slice (some ⟨w.heap.size + 1, 0, none⟩) g.length g.length) ∧ Below w.heap.size w V ∧ T ≤ V.heap.size)
    (fun _ _ _ => False)
    (fun T s A B row hs hg hr => by
      obtain ⟨ys, P, h1, h2, h3, h4, h5, h6, h7⟩ := hs
      exact ⟨ys, P, Sep.calm h1 hg (fun r e => (hr r e).2), h2, h3, h4, h5.kept hg (fun e => by have := (hr _ e.symm).1; omega), h6.grown hg h6.size (fun k e => by have := (hr _ e).1; have := BX.size; omega), Nat.le_trans h7 hg.size⟩)
    (fun _ _ _ _ _ hs _ _ => hs)
    (fun W' hg => ⟨noLists g.length, List.replicate g.length [], Sep.calm HOX.out hg (fun r e => by cases e), lists_noLists _, Came.begin _, fun y hy b hb => (by obtain rfl : y = ⟨[], .slice none 0 0⟩ := List.eq_of_mem_replicate hy; cases hb), xb.kept hg (by simp), BX.grown hg BX.size (fun k e => by cases e), Nat.le_refl _⟩)
    (fun x => { tmps := #[Value.agg #[Value.slice a g.length c], Value.pointer (some { block := w.heap.size, off := 0 }), Value.slice none 0 0, Value.pointer (some { block := w1.heap.size, off := 0 }), .int .i64 (x.1.1 : Int), .int .i64 (x.1.2 : Int), Value.pointer (some { block := w.heap.size, off := 0 }), Value.slice a g.length c, Value.int IntKind.i64 ↑g.length, Value.slice (some { block := w.heap.size + 1, off := 0 }) g.length g.length, Value.agg #[Value.slice a g.length c], Value.func (Fn.func 78) #[] #[Value.pointer (some { block := w1.heap.size + 1, off := 0 })], .int .i64 (x.1.1 : Int), .int .i64 (x.1.2 : Int), undef, undef, undef, undef, undef, undef], defers := [] }) ?assign ?body ?done ?stop
  case assign =>
    intro l x W K hK
    gi_wp2
    exact hK
  case body =>
    rintro l T pre x V hT ⟨ys, P, h1, h2, h3, h4, h5, h6, h7⟩ hlen
    have hto : x.1.2 < g.length := by obtain ⟨_, lst, hl, hv⟩ := x.2; exact G.below _ lst hl _ hv
    have hyl : ys.length = g.length := by have := congrArg List.length h2; rw [lists_length] at this; simp [natsL, h3.1] at this; exact this
    obtain ⟨r, hr⟩ : ∃ r, P[x.1.2]? = some r := ⟨_, List.getElem?_eq_getElem (by rw [h3.1]; exact hto)⟩
    obtain ⟨sv, hsv⟩ := own_of_lists h2 hr
    have hrs := (h3.2 _ r hr).1
    have hrl : r.length ≤ 1000 := by
      have h8 := nodup_le (n := g.length) (rising_nodup hrs) (fun k hk => by
        obtain ⟨y, hy, e⟩ := List.mem_map.1 (((h3.2 _ r hr).2 k).1 hk)
        have hy2 := y.2.1
        rw [e] at hy2
        exact RchW.lt G hy2)
      omega
    have hf := ownS_front hsv h1
    rw [hyl] at hf
    have HA := hid (add_any 60 1 (w.heap.size + 1) g.length g.length x.1.2 (vals ys) sv r x.1.1 _ (w.heap.size + 1) V (by simpa [rowL, nats_length] using hf) (by simp [vals, hsv]) hrs hrl (by have := h6.size; omega))
    have c5 := h5.cell
    have HQ := hid (And.intro h1 (And.intro h2 (And.intro h3 (And.intro h4 (And.intro h5 (And.intro h6 (And.intro hr (And.intro hsv hyl))))))))
    clear h1 h2 h3 h4 h5 h6 hr hsv hf hyl
    gi_wp2_with (refine ⟨trivial, ?_⟩; gi_at_call 74; refine (CallsIn.inRound l (callsIn_wide.2 HA.out)).mono ?_; rintro e Z ⟨rfl, sv', hs', honly, hnew⟩)
    obtain ⟨h1, h2, h3, h4, h5, h6, hr, hsv, hyl⟩ := HQ.out
    have hsm := List.mem_of_getElem? hsv
    have far : ∀ k, sv.ownBlock = some k → T ≤ k := fun k hk => h4 _ hsm k hk
    have kind : ∀ k o, V.heap[k]? = some o → o.isCells = false → ¬ (k = w.heap.size + 1 ∨ sv.ownBlock = some k) := by
      rintro k o hk ho (e | e)
      · obtain ⟨c', fz, hc⟩ := own_kind (h1.1 ⟨60, 1, .slice (some ⟨w.heap.size + 1, 0, none⟩) g.length g.length, ys.length, vals ys⟩ (by simp)) (show (Value.slice (some ⟨w.heap.size + 1, 0, none⟩) g.length g.length).ownBlock = some k by rw [e]; rfl)
        rw [hc] at hk; cases hk; simp [Obj.isCells] at ho
      · obtain ⟨c', fz, hc⟩ := own_kind (h1.1 (rowL ⟨nats r, sv⟩) (List.mem_cons_of_mem _ (List.mem_map_of_mem hsm))) (show (rowL ⟨nats r, sv⟩).v.ownBlock = some k from e)
        rw [hc] at hk; cases hk; simp [Obj.isCells] at ho
    have hzV := h6.size
    have hbX := BX.size
    refine ⟨⟨honly.size, fun k o hk ho => (honly.block k (Array.getElem?_eq_some_iff.1 hk).1 (kind k o hk ho)).trans hk⟩, ⟨⟨honly.os, honly.tape, honly.output, honly.size, fun k hk => absurd hk (by omega)⟩, fun k hk => honly.block k (by omega) ?_⟩, ys.set x.1.2 ⟨nats (putL r x.1.1), sv'⟩, P.set x.1.2 (putL r x.1.1), ownS_back hsv ?_, ?_, ?_, ?_, ?_, ?_, Nat.le_trans h7 honly.size⟩
    · rintro (e | e)
      · omega
      · have := far k e; omega
    · rw [hyl]
      rw [List.map_take, List.map_drop]
      show Sep Z _ (_ :: ⟨3, 1, sv', (nats (putL r x.1.1)).length, ints (nats (putL r x.1.1))⟩ :: _)
      rw [nats_length]
      exact hs'
    · rw [lists_set, h2, natsL_set]
    · rw [List.map_append]
      exact h3.add hr
    · intro y hy b hb
      rcases List.mem_or_eq_of_mem_set hy with hy | rfl
      · exact h4 y hy b hb
      · rcases hnew b hb with h | h
        · exact far b h
        · omega
    · refine (honly.block w1.heap.size (by omega) ?_).trans h5
      rintro (e | e)
      · omega
      · have := far _ e; omega
    · refine honly.below h6 (fun k hk => ?_)
      rcases hk with e | e
      · omega
      · have := far k e; omega
  case done =>
    rintro D T xs V hD hS ⟨ys, P, h1, h2, h3, h4, h5, h6, h7⟩ hK
    have c5 := h5.cell
    gi_wp2
    refine ⟨by simp, .inl ⟨_, _, rfl, run_takeDeferred hK, ?_⟩⟩
    refine ⟨_, results_tmp rfl _ _ _, _, _, ys, P, rfl, ?_, h2, by rw [hS] at h3; exact h3, ?_⟩
    · exact Sep.mono (Sep.calm h1 (grownBy_putObj' _ D _) (fun r e => by cases e; exact ⟨_, hK, rfl⟩)) (by omega)
    · exact h6.trans (belowK_b (w := w) (Nat.le_refl _) _ D _ _ (by have := BX.size; omega) hK rfl rfl)
  case stop =>
    rintro D cd pre V _ _ h _
    exact h.elim
end Go.Proofs.YtiadmmnnbnamjaaGreat
