/- The program's iterator over the edges. -/
import Derived.Test.YtiadmmnnbnamjaaGreatNodes7
import Derived.Test.YtiadmmnnbnamjaaGreatRange7
namespace Go.Proofs.YtiadmmnnbnamjaaGreat
open Go Go.RowKit Go.Shelf
attribute [local go_sem] Oper.semAt_some
set_option linter.unusedVariables false
set_option linter.unusedSimpArgs false
set_option maxRecDepth 100000

theorem RoundIn.deep {m m' : Nat} {P : Program} {l l' : Nat} {f : FuncId} {tmps : Array Value} {assign body : Code} {w : World} {R : Ending → World → Prop}
    (h : RoundIn Fence.wide m P l f tmps assign body w R) : RoundIn (Fence.wide.inRound l') m' P l f tmps assign body w R := ⟨h.1, fun c cs _ => h.2 c cs (fun d h => by cases h)⟩
theorem Stay.whole {K : Nat → Prop} {A T n : Nat} {W W' : World} (h : Stay K A T W W') (hK : ∀ k, k < n → K k) : Below n W W' := ⟨h.1.os, h.1.tape, h.1.output, h.1.size, fun k hk => h.2 k (.inl (hK k hk))⟩
theorem stay_own {β : Type} {K : Nat → Prop} {A T B : Nat} {W : World} (hK : ∀ k, K k → k < B) (hT : T ≤ B) (hB : B ≤ W.heap.size) : OwnFrom B (fun (_ : β) W' => Stay K A T W W') := by
  intro s X Y row hs hg hr
  refine ⟨hs.1.grown hg (by omega) (fun k e => by omega), fun k hk => ?_⟩
  have hkB : k < B := by rcases hk with hk | hk; exact hK k hk; omega
  exact (hg.block k (by have := hs.1.size; omega) (fun e => by have := (hr k e.symm).1; omega)).trans (hs.2 k hk)
theorem cell_same {W W' : World} {p : Addr} (h : W'.heap[p.block]? = W.heap[p.block]?) : W'.cell? p = W.cell? p := by simp only [World.cell?, h]
theorem attach_nats (s : List Nat) : (s.attach.map fun u => ((u.1 : Nat) : Int)) = nats s := by
  have : s.attach.map Subtype.val = s := List.attach_map_subtype_val s
  calc (s.attach.map fun u => ((u.1 : Nat) : Int)) = (s.attach.map Subtype.val).map (fun n : Nat => (n : Int)) := by rw [List.map_map]; rfl
    _ = nats s := by rw [this]; rfl
def edgesAt (g : List (List Nat)) (u : Nat) : List (Nat × Nat) := (g[u]?.getD []).map fun v => (u, v)
def edgesL (g : List (List Nat)) : List (Nat × Nat) := (setL (order7 g)).flatMap (edgesAt g)
theorem edges_few {g : List (List Nat)} (G : Gr g) : ∀ us : List Nat, (us.flatMap (edgesAt g)).length ≤ 12 * us.length
  | [] => by simp
  | u :: us => by
    have ih := edges_few G us
    have : (edgesAt g u).length ≤ 12 := by
      unfold edgesAt
      rw [List.length_map]
      cases hu : g[u]? with
      | none => simp
      | some l =>
        have h1 := nodup_le (n := g.length) (rising_nodup (G.rising u l hu)) (fun k hk => G.below u l hu k hk)
        have := G.most
        simp only [Option.getD_some]
        omega
    simp only [List.flatMap_cons, List.length_append, List.length_cons]
    omega
set_option maxHeartbeats 4000000 in
theorem edges_own {g : List (List Nat)} (G : Gr g) (a : Option Addr) (c : Nat) (P : Nat × Nat → Prop) (hP : ∀ u ∈ setL (order7 g), ∀ l, g[u]? = some l → ∀ v ∈ l, P (u, v)) (hlt : ∀ u ∈ order7 g, u < g.length) (hol : (order7 g).length ≤ 12)
    (n : Nat) (hn : 4 ≤ n) (Bg : Nat) (K : Nat → Prop) (w0 w : World) (h : GRow w0 a g) (hb0 : Below w0.heap.size w0 w) (hK0 : ∀ k, k < w0.heap.size → K k) (hKg : K Bg) (hKw : ∀ k, K k → k < w.heap.size) (hc : w.cell? ⟨Bg, 0, none⟩ = some (.slice a g.length c)) :
    SeqOwn Fence.wide n Tryz.prog 78 #[.pointer (some ⟨Bg, 0, none⟩)] (fun x : { e : Nat × Nat // P e } => #[Value.int .i64 (x.1.1 : Int), Value.int .i64 (x.1.2 : Int)]) K (fun ys => ys.map (·.1) = edgesL g) (fun pre => pre.map (·.1) <+: edgesL g) 144 w := by
  intro l J Jx W hW hprep hown hownx hY
  have hgm := G.most
  have n1 : 1 ≤ n := by omega
  have n2 : 1 ≤ n - 1 := by omega
  have n3 : 1 ≤ n - 1 - 1 := by omega
  have H := hid (And.intro h hP)
  have HY := hid hY
  have HP := hid (And.intro hprep (And.intro hown hownx))
  clear h hP hY hprep hown hownx
  refine callsIn_of_wp_marks Tryz.func78 rfl trivial ?_ rfl
  simp only [Tryz.ntmps78, List.size_toArray, List.length_cons, List.length_nil, Nat.reduceAdd, Nat.reduceSub, Array.replicate_succ, Array.replicate_zero, List.push_toArray, List.append_toArray, List.nil_append, List.cons_append]
  have hBg : Bg < w.heap.size := hKw _ hKg
  have cg : W.cell? ⟨Bg, 0, none⟩ = some (.slice a g.length c) := (hW.cell (p := ⟨Bg, 0, none⟩) hBg).trans hc
  have BW : Below w0.heap.size w0 W := hb0.trans (hW.mono hb0.size)
  have bA := below1 W (.cells #[.func (.yield l) #[] #[]] 106)
  have cg1 : (W.alloc (.cells #[.func (.yield l) #[] #[]] 106)).cell? ⟨Bg, 0, none⟩ = some (.slice a g.length c) := cell_below cg bA
  have HN := hid (nodesIn_any G a c (W.alloc (.cells #[.func (.yield l) #[] #[]] 106)) (LRow.below H.out.1 (BW.trans (bA.mono BW.size))) (by omega))
  gi_wp2_with (first | (refine ⟨trivial, ?_⟩; gi_at_call 79; refine (callsIn_wide.2 HN.out).mono ?_; rintro e w1 ⟨ua, uc, rfl, ho1, hb1⟩) | (refine ⟨trivial, ?_⟩; gi_at_call 37; refine (callsIn_wide.2 (all_any _ _ _ _)).mono ?_; rintro e w' ⟨rfl, rfl⟩))
  have hol2 := setL_len (order7 g)
  obtain ⟨X, hX⟩ : ∃ X, ((w1.alloc (Obj.cells #[Value.slice ua (setL (order7 g)).length uc] 60)).alloc (Obj.cells #[Value.slice ua (setL (order7 g)).length uc] 35)) = X := ⟨_, rfl⟩
  have zX : X.heap.size = w1.heap.size + 2 := by rw [← hX]; simp
  have b1X : Below w1.heap.size w1 X := by rw [← hX]; exact below2 _ _ _
  have z1 : W.heap.size + 1 ≤ w1.heap.size := by have := hb1.size; simpa using this
  have BWX : Below W.heap.size W X := (bstep' bA hb1).trans (b1X.mono (by omega))
  have gWX : W.grownBy X none := grownBy_of_below BWX _
  have yX : Boxed X W.heap.size 106 (.func (.yield l) #[] #[]) := by
    have h1 := Boxed.new W 106 (.func (.yield l) #[] #[])
    have h2 := boxed_below h1 hb1
    exact boxed_below h2 b1X
  have cgX : X.cell? ⟨Bg, 0, none⟩ = some (.slice a g.length c) := cell_below cg BWX
  have cX : X.cell? ⟨w1.heap.size + 1, 0, none⟩ = some (.slice ua (setL (order7 g)).length uc) := by
    rw [← hX]
    have := Boxed.new (w1.alloc (Obj.cells #[Value.slice ua (setL (order7 g)).length uc] 60)) 35 (.slice ua (setL (order7 g)).length uc)
    rw [World.size_alloc] at this
    exact this.cell
  have oX := owns_below ho1 b1X
  have hspan : ∀ b off, ua = some ⟨b, off, none⟩ → W.heap.size ≤ b ∧ b < X.heap.size := by
    intro b off e
    subst e
    have h1 := ho1.lt b (by rfl)
    simp only [World.size_alloc] at h1
    omega
  have rX : Row X ua (nats (setL (order7 g))) := own_row (c := uc) (by rw [nats_length]; exact oX)
  rw [hX]
  have HX := hid (And.intro gWX (And.intro hspan rX))
  clear hX ho1 hb1 oX gWX hspan rX b1X HN
  refine wpIn_rangeFunc_ownG rfl n1 (gf := 94) (lb := #[.pointer (some ⟨w1.heap.size + 1, 0, none⟩)]) rfl trivial (enters_of Tryz.func94 (by kernel_rfl) rfl)
    (values_keep (fun u : { u : Nat // u ∈ setL (order7 g) } => (u.1 : Int)) _ (by omega) (w1.heap.size + 1) ua uc (setL (order7 g)).attach (by rw [List.length_attach]; omega) (Stay K W.heap.size X.heap.size) ?keep X (by rw [attach_nats]; exact HX.out.2.2) (by omega) (by rw [List.length_attach]; exact cX))
    (fun {_ _ _} h k => Stay.trans h k) (fun V l' o o' hl ho _ _ => Stay.put _ ho (fun hk => by have := hKw _ hk; have := hW.size; have := BWX.size; omega) (by omega)) (Below.refl _ _) (fun _ => rfl)
    (fun pre V => (∃ es : List { e : Nat × Nat // P e }, es.map (·.1) = (pre.map (·.1)).flatMap (edgesAt g) ∧ J X.heap.size es V) ∧ Stay K W.heap.size X.heap.size X V)
    (fun cd pre V => cd = .ret ∧ ∃ es : List { e : Nat × Nat // P e }, es.map (·.1) <+: (pre.map (·.1)).flatMap (edgesAt g) ∧ Jx es V)
    (OwnFrom.and (fun s A B row hs hg hr => by
      obtain ⟨es, he, hj⟩ := hs
      exact ⟨es, he, HP.out.2.1 _ es A B row hj hg (fun r e => ⟨by have := (hr r e).1; have := BWX.size; omega, (hr r e).2⟩)⟩) (stay_own (fun k hk => by have := hKw _ hk; have := hW.size; have := BWX.size; omega) (Nat.le_refl _) (Nat.le_refl _)))
    (fun cd s A B row hs hg hr => by
      obtain ⟨hcd, es, he, hj⟩ := hs
      exact ⟨hcd, es, he, HP.out.2.2 es A B row hj hg (fun r e => ⟨by have := (hr r e).1; have := BWX.size; omega, (hr r e).2⟩)⟩)
    ⟨⟨[], rfl, HP.out.1 X HX.out.1⟩, Below.refl _ _, fun _ _ => rfl⟩
    (fun u => { tmps := #[Value.func (Fn.yield l) #[] #[], Value.pointer (some { block := Bg, off := 0 }), Value.pointer (some { block := W.heap.size, off := 0 }), .int .i64 (u.1 : Int), undef, undef, Value.agg #[Value.slice a g.length c], Value.agg #[Value.slice ua (setL (order7 g)).length uc], Value.func (Fn.func 94) #[] #[Value.pointer (some { block := w1.heap.size + 1, off := 0 })], .int .i64 (u.1 : Int), undef, undef, undef, undef, undef, undef, undef, undef, undef, undef, undef, undef, undef, undef, undef, undef], defers := [] }) ?assign ?body ?done ?stop
  case keep =>
    intro V V' hr hs
    rcases hr with hr | ⟨b, off, rfl, hcs⟩
    · exact .inl hr
    · exact .inr ⟨b, off, rfl, fun i hi => by rw [cell_same (p := ⟨b, off + i, none⟩) (hs.2 b (.inr (HX.out.2.1 b off rfl)))]; exact hcs i hi⟩
  case assign =>
    intro l' x V Kc hKc
    gi_wp2
    exact hKc
  case body =>
    rintro l' pre x V ⟨⟨es, hes, hJ⟩, hst⟩ hlen
    rw [List.length_attach] at hlen
    have hxl : x.1 < g.length := hlt _ ((setL_mem _ _).1 x.2)
    obtain ⟨lst, hlst⟩ : ∃ lst, g[x.1]? = some lst := ⟨_, List.getElem?_eq_getElem hxl⟩
    have BV : Below w0.heap.size w0 V := (BW.trans (BWX.mono BW.size)).trans (hst.whole hK0)
    obtain ⟨b, off, ta, tc, rfl, hcl, hrow, hbb⟩ := H.out.1.at' BV hlst
    have yV : V.cell? ⟨W.heap.size, 0, none⟩ = some (.func (.yield l) #[] #[]) := (cell_same (p := ⟨W.heap.size, 0, none⟩) (hst.2 W.heap.size (.inr ⟨Nat.le_refl _, by omega⟩))).trans yX.cell
    have cgV : V.cell? ⟨Bg, 0, none⟩ = some (.slice (some ⟨b, off, none⟩) g.length c) := (cell_same (p := ⟨Bg, 0, none⟩) (hst.2 _ (.inl hKg))).trans cgX
    have hll : lst.length ≤ 12 := by have h1 := nodup_le (n := g.length) (rising_nodup (G.rising _ lst hlst)) (fun k hk => G.below _ lst hlst k hk); omega
    have HR := hid hrow
    have HJ := hid (And.intro hes (And.intro hJ (And.intro hst hlst)))
    clear hrow hes hJ hst hlst
    gi_wp2
    gi_loopw [16] (fun t16 wr => ∃ (j : Nat) (es : List { e : Nat × Nat // P e }), t16 = .int .i64 j ∧ j ≤ lst.length ∧ es.map (·.1) = (pre.map (·.1)).flatMap (edgesAt g) ++ (lst.take j).map (fun v => (x.1, v)) ∧ J X.heap.size es wr ∧ Stay K W.heap.size X.heap.size X wr ∧ Stay K W.heap.size X.heap.size V wr ∧ KeepsFrom X.heap.size V wr) (fun t16 _ => lst.length - (intOf t16).toNat)
    case atStart => exact ⟨0, es, rfl, by omega, by simpa using HJ.out.1, HJ.out.2.1, HJ.out.2.2.1, ⟨Below.refl _ _, fun _ _ => rfl⟩, KeepsFrom.refl _ _⟩
    case round =>
      obtain ⟨j, es2, rfl, hj, hes2, hJ2, hst2, hst3, hkf⟩ := hrel
      have HQ := hid (And.intro hes2 (And.intro hJ2 (And.intro hst2 (And.intro hst3 hkf))))
      clear hes2 hJ2 hst2 hst3 hkf
      by_cases hjl : j < lst.length
      · obtain ⟨v, hv⟩ : ∃ v, lst[j]? = some v := ⟨_, List.getElem?_eq_getElem hjl⟩
        have hvm := List.mem_of_getElem? hv
        have hne : nats lst ≠ [] := by intro e; have := congrArg List.length e; rw [nats_length] at this; simp only [List.length_nil] at this; omega
        have BR : Below w0.heap.size w0 wr := (BW.trans (BWX.mono BW.size)).trans (HQ.out.2.2.1.whole hK0)
        obtain ⟨tb, toff, rfl, htb, hcs⟩ := HR.out.at hne
        obtain ⟨v', hcx, hv'⟩ := hcs wr BR j (by rw [nats_length]; exact hjl)
        obtain rfl : v' = (v : Int) := by have := hv'.out; simp [nats, hv] at this; exact this.symm
        have yR : wr.cell? ⟨W.heap.size, 0, none⟩ = some (.func (.yield l) #[] #[]) := (cell_same (p := ⟨W.heap.size, 0, none⟩) (HQ.out.2.2.1.2 W.heap.size (.inr ⟨Nat.le_refl _, by omega⟩))).trans yX.cell
        have hel : es2.length < 144 := by
          have h1 := congrArg List.length HQ.out.1
          have h2 := edges_few G (pre.map (·.1))
          simp only [List.length_map, List.length_append, List.length_take] at h1 h2
          omega
        have hPv : P (x.1, v) := H.out.2 x.1 x.2 lst HJ.out.2.2.2 v hvm
        obtain ⟨fn, tm, asg, bd, hy, hR⟩ := HY.out X.heap.size es2 ⟨(x.1, v), hPv⟩ wr (by have := BWX.size; omega) HQ.out.2.1 hel
        dsimp only at hy
        have HE : Hid (lst.take (j + 1) = lst.take j ++ [v]) := by show _ = _; rw [List.take_add_one, hv]; rfl
        have HRR := hid hR
        clear hv' hcs hne hv hvm hel hR
        gi_wp2
        refine (RoundIn.deep HRR.out).mono ?_
        rintro e Z ⟨hkz, (⟨rfl, hjz, hsz⟩ | ⟨rfl, hjz⟩)⟩
        · have HZ := hid (And.intro hkz (And.intro hjz hsz))
          clear hkz hjz hsz
          gi_wp2
          go_roundw
          case rel =>
            refine ⟨j + 1, es2 ++ [⟨(x.1, v), hPv⟩], by go_num, by omega, ?_, HZ.out.2.1, HQ.out.2.2.1.trans (HZ.out.2.2), HQ.out.2.2.2.1.trans HZ.out.2.2, HQ.out.2.2.2.2.trans ⟨HZ.out.1.size, fun k o hk => HZ.out.1.same k o (by have := BWX.size; omega)⟩⟩
            rw [HE.out, List.map_append, HQ.out.1]
            simp
          case measure => simp [intOf]; omega
        · have HZ := hid (And.intro hkz hjz)
          clear hkz hjz
          gi_wp2
          refine ⟨HQ.out.2.2.2.2.trans ⟨HZ.out.1.size, fun k o hk => HZ.out.1.same k o (by have := BWX.size; omega)⟩, rfl, es2 ++ [⟨(x.1, v), hPv⟩], ?_, HZ.out.2⟩
          have e1 : (es2 ++ [(⟨(x.1, v), hPv⟩ : { e : Nat × Nat // P e })]).map (·.1) = (pre.map (·.1)).flatMap (edgesAt g) ++ (lst.take (j + 1)).map (fun v => (x.1, v)) := by
            rw [HE.out, List.map_append, HQ.out.1]
            simp
          have e2 : ((pre ++ [x]).map (·.1)).flatMap (edgesAt g) = (pre.map (·.1)).flatMap (edgesAt g) ++ lst.map (fun v => (x.1, v)) := by simp [edgesAt, HJ.out.2.2.2]
          rw [e1, e2, List.prefix_append_right_inj]
          exact (List.take_prefix _ _).map _
      · obtain rfl : j = lst.length := by omega
        gi_wp2
        refine ⟨HQ.out.2.2.2.2, HQ.out.2.2.2.1, ⟨es2, ?_, HQ.out.2.1⟩, HQ.out.2.2.1⟩
        rw [HQ.out.1, List.take_of_length_le (Nat.le_refl _)]
        simp [edgesAt, HJ.out.2.2.2]
  case done =>
    rintro D xs V hD rfl ⟨⟨es, hes, hJ⟩, hst⟩ hK
    gi_wp2
    refine ⟨by simp, .inl ⟨_, _, rfl, run_takeDeferred hK, ?_⟩⟩
    refine ⟨_, results_none rfl _ _ _, ⟨_, rfl⟩, .inl ⟨es, X.heap.size, ?_, ?_⟩⟩
    · rw [hes, List.attach_map_subtype_val]; rfl
    · exact (HP.out.2.1 _).putObj _ hJ (by have := BWX.size; omega) hK rfl
  case stop =>
    rintro D cd pre V hD hpre ⟨rfl, es, hes, hJ⟩ hK
    gi_wp2
    refine ⟨by simp, .inl ⟨_, _, rfl, run_takeDeferred hK, ?_⟩⟩
    refine ⟨_, results_none rfl _ _ _, ⟨_, rfl⟩, .inr ⟨es, ?_, ?_⟩⟩
    · obtain ⟨rest, hrest⟩ := hpre
      have h1 : setL (order7 g) = pre.map (·.1) ++ rest.map (·.1) := by rw [← List.map_append, hrest]; exact (List.attach_map_subtype_val _).symm
      show es.map (·.1) <+: edgesL g
      unfold edgesL
      rw [h1, List.flatMap_append]
      exact hes.trans (List.prefix_append _ _)
    · exact HP.out.2.2.putObj _ hJ (by have := BWX.size; omega) hK rfl
end Go.Proofs.YtiadmmnnbnamjaaGreat
