/- Graphs without their back edges: what is come to stays so; a way leads round just if the order has an edge that does not lead on. -/
import Derived.Test.YthcenlplfcbfjaaBackMath8
namespace Go.Proofs.Ythcenlplfcbfjaa
open Go
set_option linter.unusedVariables false

/-- reached in at most so many steps -/
inductive Dist (g : List (List Nat)) : Nat → Nat → Prop
  | zero (m : Nat) : Dist g m 0
  | step {m i j : Nat} {l : List Nat} : Dist g m i → g[i]? = some l → j ∈ l → Dist g (m + 1) j
theorem Dist.more {g : List (List Nat)} {m k : Nat} (h : Dist g m k) : Dist g (m + 1) k := by
  induction h with
  | zero m => exact .zero _
  | step _ hl hj ih => exact .step ih hl hj
theorem Come.dist {g : List (List Nat)} {k : Nat} (h : Come g k) : ∃ m, Dist g m k := by
  unfold Come at h
  induction h with
  | start _ => exact ⟨0, .zero 0⟩
  | step _ hl hj _ ih => obtain ⟨m, hm⟩ := ih; exact ⟨m + 1, .step hm hl hj⟩
theorem Dist.come {g : List (List Nat)} {m k : Nat} (h : Dist g m k) : Come g k := by
  induction h with
  | zero m => exact .start (by omega)
  | step _ hl hj ih => exact .step ih hl hj (by omega)
theorem Dist.through {g : List (List Nat)} {m u : Nat} (d : Nat) (h : Dist g m u) : RchW g d u ∨ Dist g m d := by
  induction h with
  | zero m =>
    by_cases e : d = 0
    · subst e; exact .inr (.zero m)
    · exact .inl (.start (by omega))
  | @step m i j l hi hl hj ih =>
    rcases ih with ih | ih
    · by_cases e : j = d
      · subst e; exact .inr (.step hi hl hj)
      · exact .inl (.step ih hl hj (by omega))
    · exact .inr ih.more
/-- a graph without its edges to dominators -/
def fwd (g D : List (List Nat)) : List (List Nat) := (List.range g.length).map fun k => (g.getD k []).filter fun x => !(isB D (k, x))
theorem fwd_at {g D : List (List Nat)} {k : Nat} {l : List Nat} (h : g[k]? = some l) : (fwd g D)[k]? = some (l.filter fun x => !(isB D (k, x))) := by
  unfold fwd
  have hk := (List.getElem?_eq_some_iff.1 h).1
  rw [List.getElem?_map, List.getElem?_range hk]
  simp [List.getD_eq_getElem?_getD, h]
theorem fwd_len (g D : List (List Nat)) : (fwd g D).length = g.length := by simp [fwd]
theorem fwd_mem {g D : List (List Nat)} {k x : Nat} {l' : List Nat} (h : (fwd g D)[k]? = some l') (hx : x ∈ l') : ∃ l, g[k]? = some l ∧ x ∈ l ∧ isB D (k, x) = false := by
  have hk : k < g.length := by rw [← fwd_len g D]; exact (List.getElem?_eq_some_iff.1 h).1
  obtain ⟨l, hl⟩ : ∃ l, g[k]? = some l := ⟨_, List.getElem?_eq_getElem hk⟩
  rw [fwd_at hl] at h
  obtain rfl := Option.some.inj h
  have := List.mem_filter.1 hx
  exact ⟨l, hl, this.1, by simpa using this.2⟩
theorem Gr.fwd {g : List (List Nat)} (G : Gr g) (D : List (List Nat)) : Gr (fwd g D) := by
  refine ⟨by rw [fwd_len]; exact G.pos, by rw [fwd_len]; exact G.most, fun i l hl => ?_, fun i l hl k hk => ?_⟩
  · have hi : i < g.length := by rw [← fwd_len g D]; exact (List.getElem?_eq_some_iff.1 hl).1
    obtain ⟨l0, hl0⟩ : ∃ l, g[i]? = some l := ⟨_, List.getElem?_eq_getElem hi⟩
    rw [fwd_at hl0] at hl
    obtain rfl := Option.some.inj hl
    exact (G.rising i l0 hl0).filter _
  · obtain ⟨l0, h1, h2, _⟩ := fwd_mem hl hk
    rw [fwd_len]
    exact G.below i l0 h1 k h2
theorem fwd_come {g D : List (List Nat)} (G : Gr g) (hD : IsDoms g D) (k : Nat) : Come (fwd g D) k ↔ Come g k := by
  constructor
  · intro h
    unfold Come at h
    induction h with
    | start _ => exact .start (by omega)
    | step _ hl hj _ ih => obtain ⟨l, h1, h2, _⟩ := fwd_mem hl hj; exact .step ih h1 h2 (by omega)
  · intro h
    obtain ⟨m, hm⟩ := h.dist
    induction m using Nat.strongRecOn generalizing k with
    | _ m ih =>
      by_cases hmin : ∃ m', m' < m ∧ Dist g m' k
      · obtain ⟨m', h1, h2⟩ := hmin
        exact ih m' h1 k h h2
      · cases hm with
        | zero _ => exact .start (by omega)
        | @step m i j l hi hl hj =>
          have hnb : isB D (i, k) = false := by
            cases e : isB D (i, k) with
            | false => rfl
            | true =>
              exfalso
              have hd := ((isB_dom hD i k).1 e).2
              rcases hi.through k with h1 | h1
              · exact hd.2.2 h1
              · exact hmin ⟨m, by omega, h1⟩
          exact .step (ih m (by omega) i hi.come hi) (fwd_at hl) (List.mem_filter.2 ⟨hj, by simp [hnb]⟩) (by omega)
/-- a way along edges -/
inductive Way (g : List (List Nat)) : Nat → Nat → Prop
  | refl (u : Nat) : Way g u u
  | step {u v x : Nat} {l : List Nat} : Way g u v → g[v]? = some l → x ∈ l → Way g u x
theorem Way.trans {g : List (List Nat)} {u v x : Nat} (h : Way g u v) (k : Way g v x) : Way g u x := by
  induction k with
  | refl => exact h
  | step _ hl hx ih => exact .step ih hl hx
theorem Way.head {g : List (List Nat)} {u x : Nat} (h : Way g u x) : u = x ∨ ∃ l y, g[u]? = some l ∧ y ∈ l ∧ Way g y x := by
  induction h with
  | refl => exact .inl rfl
  | @step v x l h1 hl hx ih =>
    rcases ih with rfl | ⟨l', y, hl', hy, hw⟩
    · exact .inr ⟨l, x, hl, hx, .refl x⟩
    · exact .inr ⟨l', y, hl', hy, .step hw hl hx⟩
theorem Way.come {g : List (List Nat)} {u x : Nat} (h : Way g u x) (hu : Come g u) : Come g x := by
  induction h with
  | refl => exact hu
  | step _ hl hx ih => exact .step ih hl hx (by omega)
/-- each edge leads to one that is behind, or from which a way leads back -/
def Fwd (g : List (List Nat)) (o : List Nat) : Prop := ∀ u post, (u :: post) <:+ o → ∀ l, g[u]? = some l → ∀ v ∈ l, v ∈ post ∨ Way g v u
theorem dfs_fwd {g : List (List Nat)} (G : Gr g) (n : Nat) : ∀ (k : Nat) (A : List Nat) (p : List Nat × List Nat), Tour g A p → Fwd g p.2 → (∀ a ∈ A, Way g a k) → k < g.length → k ∉ p.1 → Come g k → g.length ≤ p.1.length + n → Tour g A (dfs g n k p.1 p.2) ∧ Fwd g (dfs g n k p.1 p.2).2 ∧ k ∈ (dfs g n k p.1 p.2).1 := by
  induction n with
  | zero =>
    intro k A p h _ _ hk hn _ hl
    have := h.seen.room hk hn
    omega
  | succ n ih =>
    intro k A p h hf hA hk hn hc hl
    have hT := dfs_tour G (n + 1) k A p h hk hn hc hl
    refine ⟨hT.1, ?_, hT.2⟩
    obtain ⟨l, hgl⟩ : ∃ l, g[k]? = some l := ⟨_, List.getElem?_eq_getElem hk⟩
    rw [dfs_succ, getD_at hgl]
    have hb := G.below k l hgl
    have hA' : ∀ x ∈ l, ∀ a ∈ k :: A, Way g a x := fun x hx a ha => by
      rcases List.mem_cons.1 ha with rfl | ha
      · exact .step (.refl _) hgl hx
      · exact .step (hA a ha) hgl hx
    have go : ∀ (r : List Nat) (q : List Nat × List Nat), (∀ x ∈ r, x ∈ l) → Tour g (k :: A) q → Fwd g q.2 → g.length ≤ q.1.length + n → Tour g (k :: A) (dfsL g n r q) ∧ Fwd g (dfsL g n r q).2 ∧ (∀ x ∈ q.1, x ∈ (dfsL g n r q).1) ∧ ∀ x ∈ r, x ∈ (dfsL g n r q).1 := by
      intro r
      induction r with
      | nil => intro q _ hq hqf _; exact ⟨hq, hqf, fun x hx => hx, fun x hx => by cases hx⟩
      | cons x r ihr =>
        intro q hr hq hqf hlq
        have e : dfsL g n (x :: r) q = dfsL g n r (if x ∈ q.1 then q else dfs g n x q.1 q.2) := rfl
        rw [e]
        have hxl : x < g.length := hb x (hr x (by simp))
        have step : Tour g (k :: A) (if x ∈ q.1 then q else dfs g n x q.1 q.2) ∧ Fwd g (if x ∈ q.1 then q else dfs g n x q.1 q.2).2 ∧ x ∈ (if x ∈ q.1 then q else dfs g n x q.1 q.2).1 ∧ Kept7 g.length q (if x ∈ q.1 then q else dfs g n x q.1 q.2) := by
          split
          · rename_i hm; exact ⟨hq, hqf, hm, .refl hq.seen⟩
          · rename_i hm
            have h1 := ih x (k :: A) q hq hqf (hA' x (hr x (by simp))) hxl hm (.step hc hgl (hr x (by simp)) (by omega)) hlq
            exact ⟨h1.1, h1.2.1, h1.2.2, dfs_kept G n x q.1 q.2 hq.seen hxl hm⟩
        obtain ⟨s1, s0, s2, s3⟩ := step
        obtain ⟨t1, t0, t2, t3⟩ := ihr _ (fun y hy => hr y (List.mem_cons_of_mem _ hy)) s1 s0 (by have := s3.2.2.1; omega)
        refine ⟨t1, t0, fun y hy => t2 y (s3.2.1 y hy), fun y hy => ?_⟩
        rcases List.mem_cons.1 hy with rfl | hy
        · exact t2 _ s2
        · exact t3 y hy
    have hp : Tour g (k :: A) (putL p.1 k, p.2) := by
      refine ⟨h.seen.put hk, fun x => ?_, fun x hx => ?_, fun x hx l' hl' y hy => ?_, h.once, fun x hx hxa => ?_⟩
      · show x ∈ putL p.1 k ↔ _
        rw [putL_mem, h.parts x, List.mem_cons]
        exact or_assoc.symm
      · rcases (putL_mem p.1 k x).1 hx with rfl | hx
        · exact hc
        · exact h.come x hx
      · exact (putL_mem p.1 k y).2 (.inr (h.closed x hx l' hl' y hy))
      · rcases List.mem_cons.1 hxa with rfl | hxa
        · exact hn ((h.parts x).2 (.inr hx))
        · exact h.apart x hx hxa
    obtain ⟨t1, t0, t2, t3⟩ := go l (putL p.1 k, p.2) (fun x hx => hx) hp hf (by show _ ≤ (putL p.1 k).length + n; rw [putL_len' p.1 k hn]; omega)
    intro u post hs lu hlu v hv
    rcases List.suffix_cons_iff.1 hs with e | hs
    · injection e with e1 e2
      subst e1 e2
      rw [hgl] at hlu
      obtain rfl := Option.some.inj hlu
      rcases (t1.parts v).1 (t3 v hv) with h1 | h1
      · rcases List.mem_cons.1 h1 with rfl | h1
        · exact .inr (.refl _)
        · exact .inr (hA v h1)
      · exact .inl h1
    · exact t0 u post hs lu hlu v hv
theorem order_fwd {g : List (List Nat)} (G : Gr g) : Fwd g (order7 g) :=
  (dfs_fwd G g.length 0 [] ([], []) (tour_start g) (by intro u post hs; simp at hs) (by simp) G.pos (by simp) (.start (by omega)) (by simp)).2.1
/-- a way leads round among the nodes that are come to -/
def Cyc (g : List (List Nat)) : Prop := ∃ S : Nat → Prop, (∃ k, S k) ∧ (∀ k, S k → Come g k) ∧ ∀ k, S k → ∃ l x, g[k]? = some l ∧ x ∈ l ∧ S x
theorem cyc_of_edge {g : List (List Nat)} (G : Gr g) {u v : Nat} (hl : Lead g u v) (h : (order7 g).idxOf v ≤ (order7 g).idxOf u) : Cyc g := by
  obtain ⟨hcu, l, hgl, hv⟩ := hl
  have hu := (order_come G u).2 hcu
  obtain ⟨pre, post, e⟩ := List.append_of_mem hu
  have hno := order_once G
  have hw : Way g v u := by
    rcases order_fwd G u post (by rw [e]; exact List.suffix_append _ _) l hgl v hv with h1 | h1
    · exfalso
      rw [e] at hno h
      have hnu : u ∉ pre := fun hm => by
        have := (List.nodup_append.1 hno).2.2 u hm u (by simp)
        exact this rfl
      have hnv : v ∉ pre := fun hm => by
        have := (List.nodup_append.1 hno).2.2 v hm v (List.mem_cons_of_mem _ h1)
        exact this rfl
      have hne : v ≠ u := fun e2 => by
        subst e2
        exact (List.nodup_cons.1 (List.nodup_append.1 hno).2.1).1 h1
      rw [List.idxOf_append, if_neg hnv, List.idxOf_append, if_neg hnu, List.idxOf_cons_self, List.idxOf_cons, show (u == v) = false from beq_eq_false_iff_ne.2 (fun h => hne h.symm)] at h
      simp at h
      omega
    · exact h1
  have hcv : Come g v := .step hcu hgl hv (by omega)
  refine ⟨fun x => Way g v x ∧ Way g x u, ⟨v, .refl v, hw⟩, fun k hk => hk.1.come hcv, fun k hk => ?_⟩
  rcases hk.2.head with rfl | ⟨l', y, hl', hy, hy2⟩
  · exact ⟨l, v, hgl, hv, .refl v, hw⟩
  · exact ⟨l', y, hl', hy, .step hk.1 hl' hy, hy2⟩
theorem edge_of_cyc {g : List (List Nat)} (G : Gr g) (h : Cyc g) : ∃ u v, Lead g u v ∧ (order7 g).idxOf v ≤ (order7 g).idxOf u := by
  refine Classical.byContradiction fun hn => ?_
  obtain ⟨S, ⟨k, hk⟩, hS, hN⟩ := h
  have : ∀ m k, S k → (order7 g).length - (order7 g).idxOf k = m → False := by
    intro m
    induction m using Nat.strongRecOn with
    | _ m ih =>
      intro k hk hm
      obtain ⟨l, x, hl, hx, hSx⟩ := hN k hk
      have hlt : (order7 g).idxOf k < (order7 g).idxOf x := by
        refine Nat.lt_of_not_le fun hle => hn ⟨k, x, ⟨hS k hk, l, hl, hx⟩, hle⟩
      have hxl := List.idxOf_lt_length_iff.2 ((order_come G x).2 (hS x hSx))
      exact ih _ (by omega) x hSx rfl
  exact this _ k hk rfl
/-- a way leads round without edges to dominators -/
def Cyc2 (g D : List (List Nat)) : Prop := ∃ S : Nat → Prop, (∃ k, S k) ∧ (∀ k, S k → Come g k) ∧ ∀ k, S k → ∃ l x, g[k]? = some l ∧ x ∈ l ∧ isB D (k, x) = false ∧ S x
theorem cyc_fwd {g D : List (List Nat)} (G : Gr g) (hD : IsDoms g D) : Cyc (fwd g D) ↔ Cyc2 g D := by
  constructor
  · rintro ⟨S, h1, h2, h3⟩
    refine ⟨S, h1, fun k hk => (fwd_come G hD k).1 (h2 k hk), fun k hk => ?_⟩
    obtain ⟨l, x, hl, hx, hS⟩ := h3 k hk
    obtain ⟨l', a, b, c⟩ := fwd_mem hl hx
    exact ⟨l', x, a, b, c, hS⟩
  · rintro ⟨S, h1, h2, h3⟩
    refine ⟨S, h1, fun k hk => (fwd_come G hD k).2 (h2 k hk), fun k hk => ?_⟩
    obtain ⟨l, x, hl, hx, hb, hS⟩ := h3 k hk
    exact ⟨_, x, fwd_at hl, List.mem_filter.2 ⟨hx, by simp [hb]⟩, hS⟩
/-- a node leads on to one that is left, not to a dominator -/
def leadB (g D : List (List Nat)) (left : List Nat) (k : Nat) : Bool := (g.getD k []).any fun x => decide (x ∈ left) && !(isB D (k, x))
theorem leadB_iff {g D : List (List Nat)} {left : List Nat} {k : Nat} : leadB g D left k = true ↔ ∃ l x, g[k]? = some l ∧ x ∈ l ∧ isB D (k, x) = false ∧ x ∈ left := by
  unfold leadB
  rw [List.any_eq_true]
  cases e : g[k]? with
  | none => simp [List.getD_eq_getElem?_getD, e]
  | some l =>
    simp only [List.getD_eq_getElem?_getD, e, Option.getD_some, Bool.and_eq_true, decide_eq_true_eq, Bool.not_eq_true']
    constructor
    · rintro ⟨x, h1, h2, h3⟩; exact ⟨l, x, rfl, h1, h3, h2⟩
    · rintro ⟨l', x, h0, h1, h3, h2⟩; cases h0; exact ⟨x, h1, h2, h3⟩
/-- those that are left have all ways round -/
structure LeftIs (g D : List (List Nat)) (left : List Nat) : Prop where
  come : ∀ k ∈ left, Come g k
  few : left.length ≤ 12
  big : ∀ S : Nat → Prop, (∀ k, S k → Come g k) → (∀ k, S k → ∃ l x, g[k]? = some l ∧ x ∈ l ∧ isB D (k, x) = false ∧ S x) → ∀ k, S k → k ∈ left
theorem LeftIs.begin {g D : List (List Nat)} (G : Gr g) {L : List Nat} (h : IsW g (-1) L) : LeftIs g D L := ⟨fun k hk => (h.2 k).1 hk, h.len G, fun S hS _ k hk => (h.2 k).2 (hS k hk)⟩
theorem LeftIs.next {g D : List (List Nat)} {left : List Nat} (h : LeftIs g D left) : LeftIs g D (left.filter (leadB g D left)) := by
  refine ⟨fun k hk => h.come k (List.mem_filter.1 hk).1, Nat.le_trans (List.length_filter_le _ _) h.few, fun S hS hN k hk => List.mem_filter.2 ⟨h.big S hS hN k hk, leadB_iff.2 ?_⟩⟩
  obtain ⟨l, x, h1, h2, h3, h4⟩ := hN k hk
  exact ⟨l, x, h1, h2, h3, h.big S hS hN x h4⟩
theorem LeftIs.end {g D : List (List Nat)} {left : List Nat} (h : LeftIs g D left) (he : (left.filter (leadB g D left)).length = left.length) : 0 < left.length ↔ Cyc2 g D := by
  have hall := List.length_filter_eq_length_iff.1 he
  constructor
  · intro hp
    obtain ⟨k, hk⟩ := List.exists_mem_of_length_pos hp
    exact ⟨fun k => k ∈ left, ⟨k, hk⟩, h.come, fun k hk => leadB_iff.1 (hall k hk)⟩
  · rintro ⟨S, ⟨k, hk⟩, hS, hN⟩
    exact List.length_pos_of_mem (h.big S hS hN k hk)
end Go.Proofs.Ythcenlplfcbfjaa
