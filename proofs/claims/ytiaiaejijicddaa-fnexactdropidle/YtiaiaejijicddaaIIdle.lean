/- The program's DropIdle. -/
import Derived.Test.YtiaiaejijicddaaSIdle2
import Derived.Test.YtiaiaejijicddaaDelF
import Derived.Test.YtiaiaejijicddaaBackW
import Derived.Test.YtiaiaejijicddaaLibS
import Derived.Test.YtiaiaejijicddaaINeed3
namespace Go.Proofs.Ytiaiaejijicddaa
open Go Go.RowKit Go.Shelf
attribute [local go_sem] Oper.semAt_some
set_option linter.unusedVariables false
set_option linter.unusedSimpArgs false
set_option maxRecDepth 100000

theorem own_kind {w : World} {B e size n g : Nat} {v : Value} {xs : List Value} (h : w.ownsRow B e size v n xs) (hv : v.ownBlock = some g) : ∃ c fz, w.heap[g]? = some (.cells c e fz) := by
  rcases h.2 with ⟨e1, _⟩ | ⟨g', cap, cur, e1, _, hgb, _⟩
  · rw [e1] at hv; cases hv
  · rw [e1] at hv; cases hv; exact ⟨_, _, hgb⟩
theorem good_more {x : Flt} (h : goodFm 8 x = true) : goodFm 250 x = true := by
  obtain ⟨p, d, t, a, b, n⟩ := x
  simp only [goodFm, belB, zB, inB] at h ⊢
  split at h <;> (try split at h) <;> (try split at h) <;> (try split at h) <;> (try split at h) <;> simp_all <;> omega
set_option maxHeartbeats 1000000 in
theorem isPure_any (p d t x y n : Int) (w : World) (hg : goodFm 8 ⟨p, d, t, x, y, n⟩ = true) : Calls Try.prog 53 #[.agg #[.int .i64 p, .int .i64 d, .int .i64 t, .int .i64 x, .int .i64 y, .int .i64 n]] w fun e w' => e = .returned (.bool (pureF ⟨p, d, t, x, y, n⟩)) ∧ Below w.heap.size w w' := by
  have b1 := below1 w (.cells #[.int .i64 p, .int .i64 d, .int .i64 t, .int .i64 x, .int .i64 y, .int .i64 n] 49)
  have k0 : (w.alloc (.cells #[.int .i64 p, .int .i64 d, .int .i64 t, .int .i64 x, .int .i64 y, .int .i64 n] 49)).cell? ⟨w.heap.size, 0, none⟩ = some (.int .i64 p) := by simp [go_sem]
  have k1 : (w.alloc (.cells #[.int .i64 p, .int .i64 d, .int .i64 t, .int .i64 x, .int .i64 y, .int .i64 n] 49)).cell? ⟨w.heap.size, 1, none⟩ = some (.int .i64 d) := by simp [go_sem]
  have hG := fun W => goodFlat_any 250 p d t x y n W
  rw [good_more hg] at hG
  have HG := hid hG
  clear hG hg
  by_cases h1 : p = 1
  · subst h1
    go_enter Try.func53, Try.ntmps53
    go_wp2_with (go_at_call 31; refine (HG.out _).mono ?_; rintro e w2 ⟨rfl, hb2⟩; have k0 := cell_below k0 hb2; have k1 := cell_below k1 hb2)
    go_ret
    exact ⟨rfl, bstep' b1 hb2⟩
  by_cases h2 : p = 2
  · subst h2
    go_enter Try.func53, Try.ntmps53
    go_wp2_with (go_at_call 31; refine (HG.out _).mono ?_; rintro e w2 ⟨rfl, hb2⟩; have k0 := cell_below k0 hb2; have k1 := cell_below k1 hb2)
    go_ret
    exact ⟨rfl, bstep' b1 hb2⟩
  by_cases h3 : p = 3
  · subst h3
    by_cases h7 : d = 7
    · subst h7
      go_enter Try.func53, Try.ntmps53
      go_wp2_with (go_at_call 31; refine (HG.out _).mono ?_; rintro e w2 ⟨rfl, hb2⟩; have k0 := cell_below k0 hb2; have k1 := cell_below k1 hb2)
      go_ret
      exact ⟨rfl, bstep' b1 hb2⟩
    · have h8 : (d != 7) = true := by simp [h7]
      go_enter Try.func53, Try.ntmps53
      go_wp2_with (go_at_call 31; refine (HG.out _).mono ?_; rintro e w2 ⟨rfl, hb2⟩; have k0 := cell_below k0 hb2; have k1 := cell_below k1 hb2)
      go_ret
      exact ⟨ret_bool (by simp [pureF, h7]), bstep' b1 hb2⟩
  · have e1 : (p == 1) = false := by simp [h1]
    have e2 : (p == 2) = false := by simp [h2]
    have e3 : (p == 3) = false := by simp [h3]
    go_enter Try.func53, Try.ntmps53
    go_wp2_with (go_at_call 31; refine (HG.out _).mono ?_; rintro e w2 ⟨rfl, hb2⟩; have k0 := cell_below k0 hb2; have k1 := cell_below k1 hb2)
    go_ret
    exact ⟨ret_bool (by simp [pureF, h1, h2, h3]), bstep' b1 hb2⟩
theorem allFm_sub {m : Int} {l k : List Flt} (h : l.Sublist k) (hk : allFm m k = true) : allFm m l = true := by
  unfold allFm at hk ⊢
  rw [List.all_eq_true] at hk ⊢
  exact fun x hx => hk x (h.subset hx)
theorem wpListIn_append_sep {F : Fence} {nF : Nat} {T e : TypeId} {size bytes : Nat} (E : Elt T e size bytes) {w : World} {ops : Array Oper} {rest : List Oper} {o : Oper} {a : Act} {Q : Exit → Act → World → Prop} (hgd : o.guard = none) (s x : Operand)
    (ho : o.op = .call { callee := .builtin .append, args := #[s, x], argTypes := #[T, T] })
    (B : Nat) (l1 : List OR) {v : Value} {n : Nat} {xs : List Value} {l2 : List OR} (h : Sep w B (l1 ++ ⟨e, size, v, n, xs⟩ :: l2)) (hs : a.eval s = v) {ad : Option Addr} {m c : Nat} {news : List Value} (hn : News w ad m size news) (hx : a.eval x = .slice ad m c) (hb : n + m ≤ 4000000) (hB : B ≤ w.heap.size)
    (k : ∀ va vc w', Sep w' B (l1 ++ ⟨e, size, .slice va (n + m) vc, n + m, xs ++ news⟩ :: l2) → Below B w w' → w.grownBy w' v.ownBlock → wpListIn F nF Try.prog ops Q rest (a.put o.dst (.slice va (n + m) vc)) w') : wpListIn F nF Try.prog ops Q (o :: rest) a w := by
  refine wpListIn_plain hgd fun K hK' => ?_
  have ho' := h.1 ⟨e, size, v, n, xs⟩ (by simp)
  obtain ⟨va, vc, w', hr, h2, h3, h4⟩ := run_append_more E w o.type B v n xs ho' ad m c news hn hb hB
  unfold Oper.wpIn
  refine ⟨?_, ?_⟩
  · simp [Oper.about, ho, resolve, Target.leads, Sem.run_pure]
  · rw [Oper.semAt_plain F _ _ (by rw [ho]; intro c hc'; cases hc')]
    simp [execOp, ho, resolve, invoke, builtin, hs, hx, hr, Result.andThen]
    exact hK' _ _ (k va vc w' (h.turn l1 (Below.refl _ _) h3 ⟨e, size, .slice va (n + m) vc, n + m, xs ++ news⟩ h2 h4) ((Below.refl B w).grown h3 hB (fun j hj => (ho'.lt j hj).1)) h3)
set_option maxHeartbeats 2000000 in
theorem iIdle_good (a ka : Option Addr) (c kc : Nat) (xs : List Flt) (ks : List Int) (w : World) (hlow : lowL xs = true) (hkeep : keepL ks = true) (hk : ks.length ≤ 9223372036854775807) (h : FRow w a xs) (hK : Row w ka ks) :
    Calls Try.prog 25 #[.slice a xs.length c, .slice ka ks.length kc] w fun e w' => (∃ va vc, e = .returned (.tuple #[.slice va (idleR ks xs).length vc, .int .i64 ((xs.length : Int) - (idleR ks xs).length), .bool true]) ∧ w'.ownsRow w.heap.size 49 6 (.slice va (idleR ks xs).length vc) (idleR ks xs).length (flatF (idleR ks xs))) ∧ Below w.heap.size w w' := by
  have hl60 := low_few hlow
  have b1 := below1 w (.cells #[.slice ka ks.length kc] 34)
  have hA := areToStack_any a ka c kc xs ks _ (by omega) hk (h.below b1) (hK.below b1)
  rw [hlow, hkeep] at hA
  have HA : Hid (Calls Try.prog 39 #[.slice a xs.length c, .slice ka ks.length kc] (w.alloc (.cells #[.slice ka ks.length kc] 34)) fun e w' => e = .returned (.bool true) ∧ Below (w.alloc (.cells #[.slice ka ks.length kc] 34)).heap.size (w.alloc (.cells #[.slice ka ks.length kc] 34)) w') := hA
  have HX := hid h
  have HKR := hid hK
  have HG := hid (low_all hlow)
  have hS1 : Sep (w.alloc (.cells #[.slice ka ks.length kc] 34)) w.heap.size [cellOR 34 1 w.heap.size [.slice ka ks.length kc]] := Sep.box (Sep.nil w w.heap.size) (Nat.le_refl _) 34 1 #[.slice ka ks.length kc] rfl
  have HS1 := hid hS1
  have HB1 := hid b1
  clear h hK hA hlow hkeep b1 hS1
  refine (callsIn_wide (n := 8)).1 ?_
  refine callsIn_of_wp_marks Try.func25 rfl trivial ?_ rfl
  simp only [Try.ntmps25, List.size_toArray, List.length_cons, List.length_nil, Nat.reduceAdd, Nat.reduceSub, Array.replicate_succ, Array.replicate_zero, List.push_toArray, List.append_toArray, List.nil_append, List.cons_append]
  gi_wp2_with (first | (refine ⟨trivial, ?_⟩; gi_at_call 39; refine (callsIn_wide.2 HA.out).mono ?_; rintro e w1 ⟨rfl, hb1⟩; have hB1 := bstep' HB1.out hb1; have hs1 : Sep w1 w.heap.size ([cellOR 34 1 w.heap.size [.slice ka ks.length kc]] ++ ⟨49, 6, .slice none 0 0, 0, []⟩ :: []) := Sep.append (HS1.out.below hb1) (Below.refl _ _) hB1.size (sep_one (World.ownsRow_nil _ _ _ _)); have c3 := hs1.cell (x := cellOR 34 1 w.heap.size [.slice ka ks.length kc]) (by simp) rfl (j := 0) rfl) | (gi_at_builtin; refine wpListIn_append_sep eltFlat rfl _ _ rfl w.heap.size [cellOR 34 1 w.heap.size [.slice ka ks.length kc]] hs1 rfl (News.flats (HX.out.below hB1)) rfl (by omega) hB1.size ?_; intro va0 vc0 w3 hs3 hb3 hg3) | (refine ⟨trivial, ?_⟩; gi_at_call 48; refine (callsIn_wide.2 (backward_any _ _ _ _)).mono ?_; rintro e w' ⟨rfl, rfl⟩))
  obtain ⟨X, hX⟩ : ∃ X, ((w3.alloc (Obj.cells #[Value.slice va0 xs.length vc0] 27)).alloc (Obj.cells #[Value.slice a xs.length c] 27)) = X := ⟨_, rfl⟩
  have hz : X.heap.size = w3.heap.size + 2 := by rw [← hX]; simp
  have HB3 : Below w.heap.size w w3 := hB1.trans hb3
  have hw3 : w.heap.size ≤ w3.heap.size := HB3.size
  have BX : Below w.heap.size w X := by rw [← hX]; exact bstep' HB3 (below2 _ _ _)
  have hs3' : Sep w3 w.heap.size [⟨49, 6, .slice va0 xs.length vc0, xs.length, flatF xs⟩, cellOR 34 1 w.heap.size [.slice ka ks.length kc]] := by
    have h1 := hs3.1
    have h2 := (List.pairwise_cons.1 hs3.2).1
    rw [Nat.zero_add, List.nil_append] at h1
    refine ⟨fun z hz => ?_, ?_⟩
    · simp at hz
      rcases hz with rfl | rfl
      · exact h1 _ (by simp)
      · exact h1 _ (by simp)
    · rw [Nat.zero_add] at h2
      exact List.pairwise_cons.2 ⟨fun z hz => by
        simp at hz; subst hz
        exact (h2 _ (List.mem_singleton.2 rfl)).symm, by simp⟩
  have hSX : Sep X w.heap.size [cellOR 27 1 w3.heap.size [.slice va0 xs.length vc0], ⟨49, 6, .slice va0 xs.length vc0, xs.length, flatF xs⟩, cellOR 34 1 w.heap.size [.slice ka ks.length kc]] := by
    rw [← hX]
    exact Sep.below (Sep.box hs3' hw3 27 1 #[.slice va0 xs.length vc0] rfl) (below1 _ _)
  have hown0 := hs3'.1 ⟨49, 6, .slice va0 xs.length vc0, xs.length, flatF xs⟩ (by simp)
  have HW0 := hid (fun k (hk : (Value.slice va0 xs.length vc0).ownBlock = some k) => (hown0.lt k hk).2)
  have hcB : X.cell? ⟨w3.heap.size + 1, 0, none⟩ = some (.slice a xs.length c) := by
    rw [← hX]
    have := Boxed.new (w3.alloc (Obj.cells #[Value.slice va0 xs.length vc0] 27)) 27 (.slice a xs.length c)
    rw [World.size_alloc] at this
    exact this.cell
  rw [hX]
  have HSX := hid hSX
  clear hs3 hs3' hown0 hb3 hg3 hb1 hs1 hB1 c3 hSX hX HB3
  refine range_own3 rfl (by omega) (gf := 67) (lb := #[.pointer (some ⟨w3.heap.size + 1, 0, none⟩)]) rfl trivial (enters_of Try.func67 (by kernel_rfl) rfl)
    (backward_own _ (by omega) (w3.heap.size + 1) a c xs (by omega) (fun k => k < w.heap.size ∨ k = w3.heap.size + 1) (fun hne b off hb => by obtain ⟨b', off', e, hlt, _⟩ := HX.out.at hne; rw [hb] at e; cases e; exact .inl hlt) (.inr rfl) X (HX.out.below BX) (by omega) hcB) (fun k hk => by have := BX.size; omega) (Below.refl _ _) (fun _ => rfl)
    (fun T pre V => (∃ sv, Sep V w.heap.size [cellOR 27 1 w3.heap.size [sv], ⟨49, 6, sv, (farL ks xs pre.length).length, flatF (farL ks xs pre.length)⟩, cellOR 34 1 w.heap.size [.slice ka ks.length kc]] ∧ ∀ k, sv.ownBlock = some k → k < w3.heap.size) ∧ Below w.heap.size w V ∧ T ≤ V.heap.size)
    (fun _ _ _ => False)
    (fun T s A B row hs hg hr => by
      obtain ⟨⟨sv, h1, h2⟩, h5, h6⟩ := hs
      exact ⟨⟨sv, Sep.calm h1 hg (fun r e => (hr r e).2), h2⟩, h5.grown hg h5.size (fun k e => by have := (hr _ e).1; have := BX.size; omega), Nat.le_trans h6 hg.size⟩)
    (fun _ _ _ _ _ hs _ _ => hs)
    (fun W' hg => ⟨⟨_, by
      have h9 := Sep.calm HSX.out hg (fun r e => by cases e)
      rw [show farL ks xs ([] : List (Nat × Flt)).length = xs from farL_zero ks xs]
      exact h9, HW0.out⟩, BX.grown hg BX.size (fun k e => by cases e), Nat.le_refl _⟩)
    (fun x => #[.int .i64 x.2.op, .int .i64 x.2.d, .int .i64 x.2.dst, .int .i64 x.2.a, .int .i64 x.2.b, .int .i64 x.2.n]) 49
    (fun x b => { tmps := #[Value.slice a xs.length c, Value.slice ka ks.length kc, undef, Value.pointer (some { block := w.heap.size, off := 0 }), Value.slice none 0 0, Value.int IntKind.i64 0, Value.bool false, Value.pointer (some { block := w3.heap.size, off := 0 }), .int .i64 (x.1 : Int), Value.pointer (some { block := b, off := 0 }), Value.slice a xs.length c, Value.slice ka ks.length kc, Value.bool true, Value.bool false, Value.slice a xs.length c, Value.slice va0 xs.length vc0, Value.slice a xs.length c, Value.func (Fn.func 67) #[] #[Value.pointer (some { block := w3.heap.size + 1, off := 0 })], .int .i64 (x.1 : Int), .agg #[.int .i64 x.2.op, .int .i64 x.2.d, .int .i64 x.2.dst, .int .i64 x.2.a, .int .i64 x.2.b, .int .i64 x.2.n], undef, undef, undef, undef, undef, undef, undef, undef, undef, undef, undef, undef, undef, undef, undef, undef, undef, undef, undef], defers := [] }) ?assign ?ti ?body ?done ?stop
  case assign =>
    intro l x W K hK
    simp only [encB]
    gi_wp2
    exact hK
  case ti => exact fun T pre W h => h.2.2
  case body =>
    rintro l T b pre x V hT ⟨⟨sv, hS, hsv⟩, hB, hTV⟩ hb hTb hlen hsp
    obtain ⟨hx1, hx2⟩ := backL_next hsp hlen
    obtain ⟨hf1, hf2⟩ := farL_step (keep := ks) hlen hx1
    rw [← hx2] at hf1 hf2
    have hgd : goodFm 8 x.2 = true := all_at HG.out hx1
    have hfs := farL_sub ks xs pre.length
    have hfg : allFm 8 (farL ks xs pre.length) = true := allFm_sub hfs HG.out
    have hfl : (farL ks xs pre.length).length ≤ 60 := by have := hfs.length_le; omega
    have hpl : farL ks xs (pre ++ [x]).length = farL ks xs (pre.length + 1) := by rw [List.length_append, List.length_singleton]
    obtain ⟨L, hL⟩ : ∃ L, farL ks xs pre.length = L := ⟨_, rfl⟩
    rw [hL] at hS hf1 hf2 hfg hfl
    have hqL : x.1 < L.length := (List.getElem?_eq_some_iff.1 hf1).1
    have hown : V.ownsRow w.heap.size 49 6 sv L.length (flatF L) := hS.1 ⟨49, 6, sv, L.length, flatF L⟩ (by simp)
    obtain ⟨va, vc, e⟩ := slice_of_owned hown
    subst e
    have hcap := own_cap hown
    have c7 : V.cell? ⟨w3.heap.size, 0, none⟩ = some (.slice va L.length vc) := hS.cell (x := cellOR 27 1 w3.heap.size [.slice va L.length vc]) (by simp) rfl rfl
    have c3 : V.cell? ⟨w.heap.size, 0, none⟩ = some (.slice ka ks.length kc) := hS.cell (x := cellOR 34 1 w.heap.size [.slice ka ks.length kc]) (by simp) rfl rfl
    have f0 : V.cell? ⟨b, 0, none⟩ = some (.int .i64 x.2.op) := by simp [World.cell?, hb]
    have f1 : V.cell? ⟨b, 1, none⟩ = some (.int .i64 x.2.d) := by simp [World.cell?, hb]
    have f2 : V.cell? ⟨b, 2, none⟩ = some (.int .i64 x.2.dst) := by simp [World.cell?, hb]
    have f3 : V.cell? ⟨b, 3, none⟩ = some (.int .i64 x.2.a) := by simp [World.cell?, hb]
    have f4 : V.cell? ⟨b, 4, none⟩ = some (.int .i64 x.2.b) := by simp [World.cell?, hb]
    have f5 : V.cell? ⟨b, 5, none⟩ = some (.int .i64 x.2.n) := by simp [World.cell?, hb]
    have hPU := fun W => isPure_any x.2.op x.2.d x.2.dst x.2.a x.2.b x.2.n W hgd
    have hUS := fun (W : World) (hW : Below V.heap.size V W) => isUsed_any 0 va ka vc kc L ks x.1 x.2 W hfl hcap hf1 hfg hk ((own_frow hown).below hW) (HKR.out.below (hB.trans (hW.mono hB.size)))
    have HSV := hid hS
    have HVB := hid hB
    have HSO := hid hsv
    have HFA : Hid (farL ks xs (pre ++ [x]).length = if pureF x.2 && usedN 0 L x.1 (makeF x.2) ks then L.take x.1 ++ L.drop (x.1 + 1) else L) := hpl.trans hf2
    have hVz : X.heap.size ≤ V.heap.size := by omega
    have HDL := hid (fun (W : World) (hW : W.ownsRow w.heap.size 49 6 (.slice va L.length vc) L.length (flatF L)) => deleteF_any w.heap.size (.slice va L.length vc) L x.1 W hqL hfl hW)
    have FIN0 : Hid (∀ w5, Below V.heap.size V w5 → farL ks xs (pre ++ [x]).length = L → KeepsOthers V w5 ∧ Stay (fun k => k < w.heap.size ∨ k = w3.heap.size + 1) X.heap.size T V w5 ∧ ((∃ sv, Sep w5 w.heap.size [cellOR 27 1 w3.heap.size [sv], ⟨49, 6, sv, (farL ks xs (pre ++ [x]).length).length, flatF (farL ks xs (pre ++ [x]).length)⟩, cellOR 34 1 w.heap.size [.slice ka ks.length kc]] ∧ ∀ k, sv.ownBlock = some k → k < w3.heap.size) ∧ Below w.heap.size w w5 ∧ T ≤ w5.heap.size)) := fun w5 hb5 he => by
      refine ⟨keeps_below hb5, ⟨hb5.mono (Nat.zero_le _), fun k hk => hb5.block k (by have := HVB.out.size; omega)⟩, ⟨_, ?_, HSO.out⟩, HVB.out.trans (hb5.mono HVB.out.size), Nat.le_trans hTV hb5.size⟩
      rw [he]
      exact HSV.out.below hb5
    clear hS hL hf1 hf2 hfs hpl hown hgd hx1 hx2 hb hsp hB hsv hfg
    cases hpu : pureF x.2 with
    | false =>
      have hpu2 : ∀ W, Calls Try.prog 53 #[.agg #[.int .i64 x.2.op, .int .i64 x.2.d, .int .i64 x.2.dst, .int .i64 x.2.a, .int .i64 x.2.b, .int .i64 x.2.n]] W fun e w' => e = .returned (.bool false) ∧ Below W.heap.size W w' := fun W => by rw [← hpu]; exact hPU W
      have HPU := hid hpu2
      have HE : Hid (farL ks xs (pre ++ [x]).length = L) := by show _ = _; rw [HFA.out, hpu]; rfl
      clear hPU hUS HFA hpu hpu2
      gi_wp2_with (refine ⟨trivial, ?_⟩; gi_at_call 53; refine (CallsIn.inRound l (callsIn_wide.2 (HPU.out _))).mono ?_; rintro e w5 ⟨rfl, hb5⟩)
      refine ⟨trivial, ?_⟩
      gi_wp2
      exact FIN0.out _ hb5 HE.out
    | true =>
      have hpu2 : ∀ W, Calls Try.prog 53 #[.agg #[.int .i64 x.2.op, .int .i64 x.2.d, .int .i64 x.2.dst, .int .i64 x.2.a, .int .i64 x.2.b, .int .i64 x.2.n]] W fun e w' => e = .returned (.bool true) ∧ Below W.heap.size W w' := fun W => by rw [← hpu]; exact hPU W
      have HPU := hid hpu2
      obtain ⟨N, hN⟩ : ∃ N, usedN 0 L x.1 (makeF x.2) ks = N := ⟨_, rfl⟩
      simp only [hN] at hUS
      rw [hpu, hN, Bool.true_and] at HFA
      have HUS := hid hUS
      clear hPU hpu hpu2 hN hUS
      cases N with
      | false =>
        have HE : Hid (farL ks xs (pre ++ [x]).length = L) := by show _ = _; rw [HFA.out]; rfl
        clear HFA
        gi_wp2_with (first | (refine ⟨trivial, ?_⟩; gi_at_call 53; refine (CallsIn.inRound l (callsIn_wide.2 (HPU.out _))).mono ?_; rintro e w5 ⟨rfl, hb5⟩; have c7 := cell_below c7 hb5; have c3 := cell_below c3 hb5) | (refine ⟨trivial, ?_⟩; gi_at_call 43; refine (CallsIn.inRound l (callsIn_wide.2 (HUS.out _ hb5))).mono ?_; rintro e w6 ⟨rfl, hb6⟩))
        exact FIN0.out _ (bstep' hb5 hb6) HE.out
      | true =>
        have HE : Hid (farL ks xs (pre ++ [x]).length = L.take x.1 ++ L.drop (x.1 + 1)) := by show _ = _; rw [HFA.out]; rfl
        have hdl : (L.take x.1 ++ L.drop (x.1 + 1)).length = L.length - 1 := by rw [List.length_append, List.length_take, List.length_drop]; omega
        have HDN := hid hdl
        have hwr : IntKind.i64.wrap ((x.1 : Int) + 1) = (x.1 : Int) + 1 := by rw [IntKind.wrap_i64]; omega
        clear HFA hdl FIN0
        gi_wp2_with (first | (refine ⟨trivial, ?_⟩; gi_at_call 53; refine (CallsIn.inRound l (callsIn_wide.2 (HPU.out _))).mono ?_; rintro e w5 ⟨rfl, hb5⟩; have c7 := cell_below c7 hb5; have c3 := cell_below c3 hb5) | (refine ⟨trivial, ?_⟩; gi_at_call 43; refine (CallsIn.inRound l (callsIn_wide.2 (HUS.out _ hb5))).mono ?_; rintro e w6 ⟨rfl, hb6⟩; have c7 := cell_below c7 hb6; have hs6 := HSV.out.below (bstep' hb5 hb6)) | (refine ⟨trivial, ?_⟩; gi_at_call 54; refine (CallsIn.inRound l (callsIn_wide.2 (HDL.out _ (hs6.1 ⟨49, 6, .slice va L.length vc, L.length, flatF L⟩ (by simp))))).mono ?_; rintro e w7 ⟨va7, vc7, rfl, ho7, hg7, he7⟩; have hs7 := hs6.turn [cellOR 27 1 w3.heap.size [.slice va L.length vc]] (Below.refl _ _) hg7 ⟨49, 6, .slice va7 (L.length - 1) vc7, L.length - 1, flatF (L.take x.1 ++ L.drop (x.1 + 1))⟩ ho7 (fun k hk => .inl (he7 ▸ hk)); have c7 : w7.cell? ⟨w3.heap.size, 0, none⟩ = some (.slice va L.length vc) := hs7.cell (x := cellOR 27 1 w3.heap.size [.slice va L.length vc]) (by simp) rfl rfl; have fz : w7.frozen? ⟨w3.heap.size, 0, none⟩ = false := hs7.frozen (x := cellOR 27 1 w3.heap.size [.slice va L.length vc]) (by simp) rfl 0))
        have hp7 := Sep.put [] (t := 27) (size := 1) (b := w3.heap.size) (xs := [.slice va L.length vc]) (l2 := [⟨49, 6, .slice va7 (L.length - 1) vc7, L.length - 1, flatF (L.take x.1 ++ L.drop (x.1 + 1))⟩, cellOR 34 1 w.heap.size [.slice ka ks.length kc]]) hs7 0 (.slice va7 (L.length - 1) vc7)
        have hb56 := bstep' hb5 hb6
        have ho6 := hs6.1 ⟨49, 6, .slice va L.length vc, L.length, flatF L⟩ (by simp)
        have hpos : ∀ k, (Value.slice va L.length vc).ownBlock = some k → w.heap.size ≤ k ∧ k < w3.heap.size := fun k hk => ⟨(ho6.lt k hk).1, HSO.out k hk⟩
        have hz6 := hb56.size
        have hz7 := hg7.size
        refine ⟨((keeps_below hb56).trans (KeepsOthers.of_grownBy hg7 (fun j o ej hj => by obtain ⟨c', fz', hc'⟩ := own_kind ho6 ej; rw [hc'] at hj; cases hj; rfl))).trans (KeepsOthers.setCell _ _ _), ⟨((hb56.mono (Nat.zero_le _)).grown hg7 (Nat.zero_le _) (fun k hk => Nat.zero_le _)).setCell (Nat.zero_le _) _, fun k hk => ?_⟩, ⟨_, ?_, fun k hk => HSO.out k (he7 ▸ hk)⟩, ?_, by simp [World.setCell]; omega⟩
        · have hne : k ≠ w3.heap.size := by omega
          have hVk : k < V.heap.size := by have := HVB.out.size; omega
          rw [Below.heap_setCell _ _ _ _ hne, hg7.block k (by omega) (fun e => by have := hpos k e.symm; omega)]
          exact hb56.block k hVk
        · rw [HE.out, HDN.out]; exact hp7.1
        · exact ((HVB.out.trans (hb56.mono HVB.out.size)).grown hg7 (by have := HVB.out.size; omega) (fun k hk => (hpos k hk).1)).trans hp7.2
  case done =>
    rintro D T ys V hD rfl ⟨⟨sv, hS, hsv⟩, hB, hTV⟩ hK
    rw [show farL ks xs (backL xs).length = idleR ks xs by rw [backL_len]; exact farL_all ks xs] at hS
    have hLe := (idleR_sub ks xs).length_le
    obtain ⟨L, hL⟩ : ∃ L, idleR ks xs = L := ⟨_, rfl⟩
    rw [hL] at hS hLe
    have HL := hid hL
    have hown : V.ownsRow w.heap.size 49 6 sv L.length (flatF L) := hS.1 ⟨49, 6, sv, L.length, flatF L⟩ (by simp)
    obtain ⟨va, vc, e⟩ := slice_of_owned hown
    subst e
    have c7 : V.cell? ⟨w3.heap.size, 0, none⟩ = some (.slice va L.length vc) := hS.cell (x := cellOR 27 1 w3.heap.size [.slice va L.length vc]) (by simp) rfl rfl
    have hwr : IntKind.i64.wrap ((xs.length : Int) - (L.length : Int)) = (xs.length : Int) - (L.length : Int) := by rw [IntKind.wrap_i64]; omega
    have HVB := hid hB
    have HKD := hid hK
    have HO := hid hown
    clear hS hown hB hL
    gi_wp2
    refine wpIn_wide.2 ?_
    go_quiet (fail)
    try gi_wp2
    have hK' : (V.drewN nq).heap[D]? = some (.deferred (some [])) := HKD.out
    have qB : Below w.heap.size w (V.drewN nq) := below_drewN HVB.out _
    have qO : (V.drewN nq).ownsRow w.heap.size 49 6 (.slice va L.length vc) L.length (flatF L) := owns_below HO.out (below_drewN (Below.refl _ _) _)
    rw [HL.out]
    refine ⟨by simp, .inl ⟨_, _, rfl, run_takeDeferred hK', ?_⟩⟩
    exact ⟨.tuple #[.slice va L.length vc, .int .i64 ((xs.length : Int) - (L.length : Int)), .bool true], by simp [results, Try.results25, go_sem], ⟨va, vc, rfl, ownsRow_putObj qO _ hK' rfl⟩, qB.trans (belowK_b (w := w) (Nat.le_refl _) _ D _ _ (by have := BX.size; omega) hK' rfl rfl)⟩
  case stop =>
    rintro D c pre W _ _ h _
    exact h.elim
end Go.Proofs.Ytiaiaejijicddaa
