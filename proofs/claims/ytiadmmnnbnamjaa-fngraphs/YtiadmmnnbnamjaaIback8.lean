/- The program's back edges. -/
import Derived.Test.YtiadmmnnbnamjaaBackMath8
import Derived.OwnWalkIn
namespace Go.Proofs.Ytiadmmnnbnamjaa
open Go Go.RowKit Go.Shelf
attribute [local go_sem] Oper.semAt_some
set_option linter.unusedVariables false
set_option linter.unusedSimpArgs false
set_option maxRecDepth 100000

theorem wpListIn_append_sep {F : Fence} {nF : Nat} {T e : TypeId} {size bytes : Nat} (E : Elt T e size bytes) {w : World} {ops : Array Oper} {rest : List Oper} {o : Oper} {a : Act} {Q : Exit → Act → World → Prop} (hgd : o.guard = none) (s x : Operand)
    (ho : o.op = .call { callee := .builtin .append, args := #[s, x], argTypes := #[T, T] })
    (B : Nat) (l1 : List OR) {v : Value} {n : Nat} {xs : List Value} {l2 : List OR} (h : Sep w B (l1 ++ ⟨e, size, v, n, xs⟩ :: l2)) (hs : a.eval s = v) {ad : Option Addr} {m c : Nat} {news : List Value} (hn : News w ad m size news) (hx : a.eval x = .slice ad m c) (hb : n + m ≤ 4000000) (hB : B ≤ w.heap.size)
    (k : ∀ va vc w', Sep w' B (l1 ++ ⟨e, size, .slice va (n + m) vc, n + m, xs ++ news⟩ :: l2) → Below B w w' → w.grownBy w' v.ownBlock → (∀ g, (Value.slice va (n + m) vc).ownBlock = some g → v.ownBlock = some g ∨ w.heap.size ≤ g) → wpListIn F nF Try.prog ops Q rest (a.put o.dst (.slice va (n + m) vc)) w') : wpListIn F nF Try.prog ops Q (o :: rest) a w := by
  refine wpListIn_plain hgd fun K hK' => ?_
  have ho' := h.1 ⟨e, size, v, n, xs⟩ (by simp)
  obtain ⟨va, vc, w', hr, h2, h3, h4⟩ := run_append_more E w o.type B v n xs ho' ad m c news hn hb hB
  unfold Oper.wpIn
  refine ⟨?_, ?_⟩
  · simp [Oper.about, ho, resolve, Target.leads, Sem.run_pure]
  · rw [Oper.semAt_plain F _ _ (by rw [ho]; intro c hc'; cases hc')]
    simp [execOp, ho, resolve, invoke, builtin, hs, hx, hr, Result.andThen]
    exact hK' _ _ (k va vc w' (h.turn l1 (Below.refl _ _) h3 ⟨e, size, .slice va (n + m) vc, n + m, xs ++ news⟩ h2 h4) ((Below.refl B w).grown h3 hB (fun j hj => (ho'.lt j hj).1)) h3 h4)
/-- what the iterator over back edges is made of -/
structure BackIs (g : List (List Nat)) (a : Option Addr) (c : Nat) (w w' : World) (Bd db dc : Nat) (ys : List LV) (D : List (List Nat)) : Prop where
  doms : IsDoms g D
  are : lists ys = natsL D
  own : OwnS w' (w.heap.size + 1) (.slice (some ⟨db, 0, none⟩) g.length dc) ys
  box : w'.cell? ⟨w.heap.size, 0, none⟩ = some (.slice a g.length c)
  dbox : w'.cell? ⟨Bd, 0, none⟩ = some (.slice (some ⟨db, 0, none⟩) g.length dc)
  far : w.heap.size < Bd
  below : Below w.heap.size w w'
set_option maxHeartbeats 2000000 in
theorem backEdgesIn_any {g : List (List Nat)} (G : Gr g) (a : Option Addr) (c : Nat) (w : World) (h : GRow w a g) :
    Calls Try.prog 23 #[.agg #[.slice a g.length c]] w fun e w' => ∃ Bd db dc ys D, e = .returned (.func (.func 45) #[] #[.pointer (some ⟨w.heap.size, 0, none⟩), .pointer (some ⟨Bd, 0, none⟩)]) ∧ BackIs g a c w w' Bd db dc ys D := by
  have b0 := below1 w (.cells #[.slice a g.length c] 25)
  have HO := hid (doms_any G a c (w.alloc (.cells #[.slice a g.length c] 25)) (LRow.below h b0))
  have d0 : (w.alloc (.cells #[.slice a g.length c] 25)).cell? ⟨w.heap.size, 0, none⟩ = some (.slice a g.length c) := by simp [go_sem]
  have z0 : (w.alloc (.cells #[.slice a g.length c] 25)).heap.size = w.heap.size + 1 := by simp
  have hgp := G.pos
  clear h
  refine (callsIn_wide (n := 8)).1 ?_
  refine callsIn_of_wp Try.func23 rfl trivial ?_ rfl
  simp only [Try.ntmps23, List.size_toArray, List.length_cons, List.length_nil, Nat.reduceAdd, Nat.reduceSub, Array.replicate_succ, Array.replicate_zero, List.push_toArray, List.append_toArray, List.nil_append, List.cons_append]
  gi_wp2_with (refine ⟨trivial, ?_⟩; gi_at_call 20; refine (callsIn_wide.2 HO.out).mono ?_; rintro e w1 ⟨va, vc, ys, D, rfl, ho, hy, hD, hb1⟩)
  obtain ⟨db, rfl⟩ : ∃ b, va = some ⟨b, 0, none⟩ := by
    have hout := ho.1 ⟨43, 1, .slice va g.length vc, ys.length, vals ys⟩ (by simp)
    simp only [OR.own] at hout
    rcases hout.2 with ⟨h0, h1⟩ | ⟨g', cap, cur, he, _⟩
    · injection h0 with _ e2 _; omega
    · injection he with e1 _ _; exact ⟨g', e1⟩
  go_ret
  have b1 := below1 w1 (.cells #[.slice (some ⟨db, 0, none⟩) g.length vc] 40)
  refine ⟨w1.heap.size, db, vc, ys, D, rfl, hD, hy, ?_, cell_below (cell_below d0 hb1) b1, by simp [go_sem], by have := hb1.size; omega, bstep' (bstep' b0 hb1) b1⟩
  rw [← z0]
  exact Sep.below ho b1
set_option maxHeartbeats 1000000 in
theorem iBackEdgesIn_bad (a : Option Addr) (c : Nat) (xs : List (List Int)) (w : World) (hl : xs.length ≤ 9223372036854775807) (h : LRow w a xs) (hG : ¬ GoodG xs) :
    Calls Try.prog 9 #[.agg #[.slice a xs.length c]] w fun e w' => e = .returned (.tuple #[.slice none 0 0, .bool false]) ∧ Below w.heap.size w w' := by
  have HC := hid (fun W hb => iGood_any a c xs false W hl (h.below hb) (by simp [hG]))
  clear h
  go_enter Try.func9, Try.ntmps9
  go_wp2_with fail
  refine (HC.out _ (below1 w _)).mono ?_
  rintro e w1 ⟨rfl, hb1⟩
  have HB := hid (bstep' (below1 w _) hb1)
  clear hb1
  go_wp2
  go_ret2
  exact ⟨rfl, HB.out⟩
set_option maxHeartbeats 4000000 in
theorem iBackEdgesIn_good {g : List (List Nat)} (G : Gr g) (a : Option Addr) (c : Nat) (w : World) (h : GRow w a g) (hG : GoodG (g.map nats)) :
    Calls Try.prog 9 #[.agg #[.slice a g.length c]] w fun e w' => ∃ v ys D, e = .returned (.tuple #[v, .bool true]) ∧ OwnL w' w.heap.size v ys ∧ IsDoms g D ∧ lists ys = pairsL (backL g D) ∧ Below w.heap.size w w' := by
  have hgm := G.most
  have HC : Hid (∀ W, Below w.heap.size w W → Calls Try.prog 16 #[.agg #[.slice a g.length c]] W fun e w' => e = .returned (.bool true) ∧ Below W.heap.size W w') := fun W hb => by
    have := iGood_any a c (g.map nats) true W (by simp; omega) (LRow.below h hb) (by simp [hG])
    rwa [List.length_map] at this
  have HB := hid (fun W (hb : Below w.heap.size w W) => backEdgesIn_any G a c W (LRow.below h hb))
  have b0 := below1 w (.cells #[.slice a g.length c] 25)
  have d0 : (w.alloc (.cells #[.slice a g.length c] 25)).cell? ⟨w.heap.size, 0, none⟩ = some (.slice a g.length c) := by simp [go_sem]
  have z0 : (w.alloc (.cells #[.slice a g.length c] 25)).heap.size = w.heap.size + 1 := by simp
  have H := hid h
  clear h
  refine (callsIn_wide (n := 12)).1 ?_
  refine callsIn_of_wp_marks Try.func9 rfl trivial ?_ rfl
  simp only [Try.ntmps9, List.size_toArray, List.length_cons, List.length_nil, Nat.reduceAdd, Nat.reduceSub, Array.replicate_succ, Array.replicate_zero, List.push_toArray, List.append_toArray, List.nil_append, List.cons_append]
  gi_wp2_with (first | (refine ⟨trivial, ?_⟩; gi_at_call 16; refine (callsIn_wide.2 (HC.out _ b0)).mono ?_; rintro e w1 ⟨rfl, hb1⟩; have B1 := bstep' b0 hb1; have d1 := cell_below d0 hb1; have b2 := below1 w1 (.cells #[.slice none 0 0] 23); have d2 := cell_below d1 b2; have B2 := bstep' B1 b2) | (refine ⟨trivial, ?_⟩; gi_at_call 23; refine (callsIn_wide.2 (HB.out _ B2)).mono ?_; rintro e X ⟨Bd, db, dc, ys, D, rfl, hbk⟩))
  have z1 : w.heap.size + 1 ≤ w1.heap.size := by have := hb1.size; omega
  have z2 : (w1.alloc (.cells #[.slice none 0 0] 23)).heap.size = w1.heap.size + 1 := by simp
  have BX : Below w.heap.size w X := bstep' B2 hbk.below
  have zX := hbk.below.size
  have xl : Boxed X w1.heap.size 23 (.slice none 0 0) := boxed_below (Boxed.new w1 23 _) hbk.below
  have hgX : w1.heap.size + 1 < X.heap.size := by have h1 : (w1.alloc (.cells #[.slice none 0 0] 23)).heap.size < X.heap.size := World.block_lt_of_cell? X _ hbk.box; omega
  have hdX : Bd < X.heap.size := World.block_lt_of_cell? X _ hbk.dbox
  have hfar := hbk.far
  rw [z2] at hfar zX
  have HK := hid hbk
  have xbox := hbk.box
  rw [z2] at xbox
  clear hbk hb1 B1 d1 b2 d2 B2 HC HB b0 d0
  refine range_own rfl (by omega) (gf := 45) (lb := #[.pointer (some ⟨w1.heap.size + 1, 0, none⟩), .pointer (some ⟨Bd, 0, none⟩)]) rfl trivial (enters_of Try.func45 (by kernel_rfl) rfl)
    (back_own G a c D HK.out.doms _ (by omega) (w1.heap.size + 1) Bd db dc _ ys (fun k => k < X.heap.size ∧ k ≠ w1.heap.size) w X H.out BX (fun k hk => ⟨by have := BX.size; omega, by omega⟩) ⟨hgX, by omega⟩ ⟨hdX, by omega⟩ (fun k hk => hk.1) xbox HK.out.dbox HK.out.own HK.out.are (fun y hy k hk => by have := Sep.size HK.out.own hy hk; rw [z2] at this; exact ⟨this.2, by omega⟩)) (fun k hk => hk.1) (Below.refl _ _) (fun _ => rfl)
    (fun T pre V => (∃ oa oc zs, Boxed V w1.heap.size 23 (.slice oa zs.length oc) ∧ Made V T [] (.slice oa zs.length oc) zs ∧ lists zs = pairsL (pre.map (·.1))) ∧ Below w.heap.size w V ∧ T ≤ V.heap.size ∧ w.heap.size ≤ T)
    (fun _ _ _ => False)
    (fun T s A B row hs hg hr => by
      obtain ⟨⟨oa, oc, zs, h1, h2, h3⟩, h4, h5, h6⟩ := hs
      exact ⟨⟨oa, oc, zs, h1.kept hg (fun e => by have := (hr _ e.symm).1; omega), Sep.calm h2 hg (fun r e => (hr r e).2), h3⟩, h4.grown hg h4.size (fun k e => by have := (hr _ e).1; have := BX.size; omega), Nat.le_trans h5 hg.size, h6⟩)
    (fun _ _ _ _ _ hs _ _ => hs)
    (fun W' hg => ⟨⟨none, 0, [], xl.kept hg (by simp), ⟨by intro x hx; simp [vals] at hx; subst hx; exact World.ownsRow_nil _ _ _ _, by simp⟩, rfl⟩, BX.grown hg BX.size (fun k e => by cases e), Nat.le_refl _, Nat.le_trans BX.size hg.size⟩)
    (fun x => { tmps := #[Value.agg #[Value.slice a g.length c], Value.pointer (some { block := w.heap.size, off := 0 }), Value.slice none 0 0, Value.bool false, Value.pointer (some { block := w1.heap.size, off := 0 }), .int .i64 (x.1.1 : Int), .int .i64 (x.1.2 : Int), Value.agg #[Value.slice a g.length c], Value.bool true, Value.bool false, Value.agg #[Value.slice a g.length c], Value.func (Fn.func 45) #[] #[Value.pointer (some { block := w1.heap.size + 1, off := 0 }), Value.pointer (some { block := Bd, off := 0 })], .int .i64 (x.1.1 : Int), .int .i64 (x.1.2 : Int), undef, undef, undef, undef, undef, undef, undef], defers := [] }) ?assign ?body ?done ?stop
  case assign =>
    intro l x W K hK
    gi_wp2
    exact hK
  case body =>
    rintro l T pre x V hT ⟨⟨oa, oc, zs, h1, h2, h3⟩, h4, h5, h6⟩ hlen
    have hzl : zs.length ≤ 1000 := by
      have := congrArg List.length h3
      rw [lists_length] at this
      simp only [pairsL, List.length_map] at this
      omega
    have c1 := h1.cell
    obtain ⟨A1, hA1⟩ : ∃ A1, V.alloc (.cells #[.int .i64 (x.1.1 : Int), .int .i64 (x.1.2 : Int)] 3) = A1 := ⟨_, rfl⟩
    obtain ⟨A2, hA2⟩ : ∃ A2, A1.alloc (.cells #[.slice (some ⟨V.heap.size, 0, none⟩) 2 2] 27) = A2 := ⟨_, rfl⟩
    have bA1 : Below V.heap.size V A1 := by rw [← hA1]; exact below1 _ _
    have zA1 : A1.heap.size = V.heap.size + 1 := by rw [← hA1]; simp
    have bA2 : Below A1.heap.size A1 A2 := by rw [← hA2]; exact below1 _ _
    have bVA : Below V.heap.size V A2 := bstep' bA1 bA2
    have hpo : A1.ownsRow V.heap.size 3 1 (.slice (some ⟨V.heap.size, 0, none⟩) 2 2) [(x.1.1 : Int), (x.1.2 : Int)].length (ints [(x.1.1 : Int), (x.1.2 : Int)]) := by rw [← hA1]; exact pair_own V _ _
    have HM3 := hid ((Made.with h2 bA1 h5 ⟨[(x.1.1 : Int), (x.1.2 : Int)], .slice (some ⟨V.heap.size, 0, none⟩) 2 2⟩ hpo).below bA2)
    have HN1 : Hid (News A2 (some ⟨V.heap.size + 1, 0, none⟩) 1 1 [.slice (some ⟨V.heap.size, 0, none⟩) 2 2]) := by
      rw [← hA2]
      exact News.one A1 _ 27 _ zA1 rfl
    have hb1 := boxed_below h1 bVA
    have HQ := hid (And.intro h1 (And.intro h2 (And.intro h3 (And.intro h4 bVA))))
    have hvk : ∀ k, (Value.slice oa zs.length oc).ownBlock = some k → (T ≤ k ∧ ∃ c' fz, A2.heap[k]? = some (.cells c' 27 fz)) := fun k hk => by
      have ho := h2.1 ⟨27, 1, .slice oa zs.length oc, zs.length, vals zs⟩ (by simp)
      refine ⟨(ho.lt k hk).1, own_kind (owns_below ho bVA) hk⟩
    have HVK := hid hvk
    have zA2 : T ≤ A2.heap.size := Nat.le_trans h5 bVA.size
    clear h1 h2 h3 h4 bA1 bA2 hpo hvk
    gi_wp2_with (gi_at_builtin; refine wpListIn_append_sep eltLists rfl _ _ rfl T [] HM3.out rfl HN1.out rfl (by omega) zA2 ?_; intro va2 vc2 w5 hs2 hb2 hg2 hn2; have hb5 := hb1.kept hg2 (fun e => by have := (HVK.out _ e.symm).1; omega); have c5 := hb5.cell; have f5 := hb5.frozen)
    have HM4 : Made w5 T [] (.slice va2 (zs.length + 1) vc2) (zs ++ [⟨[(x.1.1 : Int), (x.1.2 : Int)], .slice (some ⟨V.heap.size, 0, none⟩) 2 2⟩]) := Made.grown (n := 0) (by simpa using hs2)
    have hfar2 : ∀ k, ((k < X.heap.size ∧ k ≠ w1.heap.size) ∨ (X.heap.size ≤ k ∧ k < T)) → (w5.setCell ⟨w1.heap.size, 0, none⟩ (.slice va2 (zs.length + 1) vc2)).heap[k]? = V.heap[k]? := fun k hk => by
      have hkV : k < V.heap.size := by omega
      have hkA : k < A2.heap.size := Nat.lt_of_lt_of_le hkV bVA.size
      rw [Below.heap_setCell _ _ _ _ (show k ≠ w1.heap.size by omega), hg2.block k hkA (fun e => by have := (HVK.out _ e.symm).1; omega), bVA.block k hkV]
    have B5 : Below w.heap.size w w5 := (bstep' HQ.out.2.2.2.1 bVA).grown hg2 (Nat.le_trans h6 zA2) (fun k e => Nat.le_trans h6 (HVK.out k e).1)
    have s5 : V.heap.size ≤ w5.heap.size := Nat.le_trans bVA.size hg2.size
    refine ⟨((keeps_below bVA).trans (KeepsOthers.of_grownBy hg2 (fun j o e ho => by obtain ⟨c', fz, hc⟩ := (HVK.out j e).2; rw [hc] at ho; cases ho; rfl))).trans (KeepsOthers.setCell _ _ _), ⟨((bVA.mono (Nat.zero_le _)).grown hg2 (Nat.zero_le _) (fun k e => Nat.zero_le _)).setCell (Nat.zero_le _) _, hfar2⟩, ⟨va2, vc2, zs ++ [⟨[(x.1.1 : Int), (x.1.2 : Int)], .slice (some ⟨V.heap.size, 0, none⟩) 2 2⟩], ?_, ?_, ?_⟩, B5.setCell (by show w.heap.size ≤ w1.heap.size; omega) _, Nat.le_trans h5 (by simp [World.setCell]; exact s5), h6⟩
    · rw [List.length_append]
      exact hb5.set _
    · rw [List.length_append]
      exact (Only.setCell w5 w1.heap.size 0 _).sep HM4 (fun y hy k hk e => by have := (Sep.size HM4 hy hk).1; omega)
    · rw [List.map_append]
      show lists _ = pairsL (_ ++ [x.1])
      rw [pairsL_snoc, ← HQ.out.2.2.1]
      simp [lists]
  case done =>
    rintro Dd T xs V hDd hS ⟨⟨oa, oc, zs, h1, h2, h3⟩, h4, h5, h6⟩ hK
    have c1 := h1.cell
    gi_wp2
    refine ⟨by simp, .inl ⟨_, _, rfl, run_takeDeferred hK, ?_⟩⟩
    exact ⟨.tuple #[.slice oa zs.length oc, .bool true], by simp [results, Try.results9, go_sem], _, zs, D, rfl, Sep.mono (Sep.calm h2 (grownBy_putObj' V Dd _) (fun r e => by cases e; exact ⟨_, hK, rfl⟩)) h6, HK.out.doms, by rw [h3, hS], h4.trans (belowK_b (w := w) (Nat.le_refl _) _ Dd _ _ (by have := BX.size; omega) hK rfl rfl)⟩
  case stop =>
    rintro D c pre W _ _ h _
    exact h.elim
end Go.Proofs.Ytiadmmnnbnamjaa
