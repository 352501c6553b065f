/- Graphs without their back edges: what is come to stays so; a way leads round just if the order has an edge that does not lead on. -/
import Derived.Test.YtiadmmnnbnamjaaGreatBackMath8
import Derived.Stop.RegionWithIn
import Derived.Test.YtiadmmnnbnamjaaGreatSet7
import Derived.Test.YtiadmmnnbnamjaaGreatCopy7
import Derived.Test.YtiadmmnnbnamjaaGreatLeaders7
namespace Go.Proofs.YtiadmmnnbnamjaaGreat
section
open Go
set_option linter.unusedVariables false

/-- reached in at most so many steps -/
inductive Dist (g : List (List Nat)) : Nat → Nat → Prop
  | zero (m : Nat) : Dist g m 0
  | step {m i j : Nat} {l : List Nat} : Dist g m i → g[i]? = some l → j ∈ l → Dist g (m + 1) j
theorem Dist.more {g : List (List Nat)} {m k : Nat} (h : Dist g m k) : Dist g (m + 1) k := by
  induction h with
  | zero m => exact .zero _
  | step _ hl hj ih => exact .step ih hl hj
theorem Come.dist {g : List (List Nat)} {k : Nat} (h : Come g k) : ∃ m, Dist g m k := by
  unfold Come at h
  induction h with
  | start _ => exact ⟨0, .zero 0⟩
  | step _ hl hj _ ih => obtain ⟨m, hm⟩ := ih; exact ⟨m + 1, .step hm hl hj⟩
theorem Dist.come {g : List (List Nat)} {m k : Nat} (h : Dist g m k) : Come g k := by
  induction h with
  | zero m => exact .start (by omega)
  | step _ hl hj ih => exact .step ih hl hj (by omega)
theorem Dist.through {g : List (List Nat)} {m u : Nat} (d : Nat) (h : Dist g m u) : RchW g d u ∨ Dist g m d := by
  induction h with
  | zero m =>
    by_cases e : d = 0
    · subst e; exact .inr (.zero m)
    · exact .inl (.start (by omega))
  | @step m i j l hi hl hj ih =>
    rcases ih with ih | ih
    · by_cases e : j = d
      · subst e; exact .inr (.step hi hl hj)
      · exact .inl (.step ih hl hj (by omega))
    · exact .inr ih.more
/-- a graph without its edges to dominators -/
def fwd (g D : List (List Nat)) : List (List Nat) := (List.range g.length).map fun k => (g.getD k []).filter fun x => !(isB D (k, x))
theorem fwd_at {g D : List (List Nat)} {k : Nat} {l : List Nat} (h : g[k]? = some l) : (fwd g D)[k]? = some (l.filter fun x => !(isB D (k, x))) := by
  unfold fwd
  have hk := (List.getElem?_eq_some_iff.1 h).1
  rw [List.getElem?_map, List.getElem?_range hk]
  simp [List.getD_eq_getElem?_getD, h]
theorem fwd_len (g D : List (List Nat)) : (fwd g D).length = g.length := by simp [fwd]
theorem fwd_mem {g D : List (List Nat)} {k x : Nat} {l' : List Nat} (h : (fwd g D)[k]? = some l') (hx : x ∈ l') : ∃ l, g[k]? = some l ∧ x ∈ l ∧ isB D (k, x) = false := by
  have hk : k < g.length := by rw [← fwd_len g D]; exact (List.getElem?_eq_some_iff.1 h).1
  obtain ⟨l, hl⟩ : ∃ l, g[k]? = some l := ⟨_, List.getElem?_eq_getElem hk⟩
  rw [fwd_at hl] at h
  obtain rfl := Option.some.inj h
  have := List.mem_filter.1 hx
  exact ⟨l, hl, this.1, by simpa using this.2⟩
theorem Gr.fwd {g : List (List Nat)} (G : Gr g) (D : List (List Nat)) : Gr (fwd g D) := by
  refine ⟨by rw [fwd_len]; exact G.pos, by rw [fwd_len]; exact G.most, fun i l hl => ?_, fun i l hl k hk => ?_⟩
  · have hi : i < g.length := by rw [← fwd_len g D]; exact (List.getElem?_eq_some_iff.1 hl).1
    obtain ⟨l0, hl0⟩ : ∃ l, g[i]? = some l := ⟨_, List.getElem?_eq_getElem hi⟩
    rw [fwd_at hl0] at hl
    obtain rfl := Option.some.inj hl
    exact (G.rising i l0 hl0).filter _
  · obtain ⟨l0, h1, h2, _⟩ := fwd_mem hl hk
    rw [fwd_len]
    exact G.below i l0 h1 k h2
theorem fwd_come {g D : List (List Nat)} (G : Gr g) (hD : IsDoms g D) (k : Nat) : Come (fwd g D) k ↔ Come g k := by
  constructor
  · intro h
    unfold Come at h
    induction h with
    | start _ => exact .start (by omega)
    | step _ hl hj _ ih => obtain ⟨l, h1, h2, _⟩ := fwd_mem hl hj; exact .step ih h1 h2 (by omega)
  · intro h
    obtain ⟨m, hm⟩ := h.dist
    induction m using Nat.strongRecOn generalizing k with
    | _ m ih =>
      by_cases hmin : ∃ m', m' < m ∧ Dist g m' k
      · obtain ⟨m', h1, h2⟩ := hmin
        exact ih m' h1 k h h2
      · cases hm with
        | zero _ => exact .start (by omega)
        | @step m i j l hi hl hj =>
          have hnb : isB D (i, k) = false := by
            cases e : isB D (i, k) with
            | false => rfl
            | true =>
              exfalso
              have hd := ((isB_dom hD i k).1 e).2
              rcases hi.through k with h1 | h1
              · exact hd.2.2 h1
              · exact hmin ⟨m, by omega, h1⟩
          exact .step (ih m (by omega) i hi.come hi) (fwd_at hl) (List.mem_filter.2 ⟨hj, by simp [hnb]⟩) (by omega)
/-- a way along edges -/
inductive Way (g : List (List Nat)) : Nat → Nat → Prop
  | refl (u : Nat) : Way g u u
  | step {u v x : Nat} {l : List Nat} : Way g u v → g[v]? = some l → x ∈ l → Way g u x
theorem Way.trans {g : List (List Nat)} {u v x : Nat} (h : Way g u v) (k : Way g v x) : Way g u x := by
  induction k with
  | refl => exact h
  | step _ hl hx ih => exact .step ih hl hx
theorem Way.head {g : List (List Nat)} {u x : Nat} (h : Way g u x) : u = x ∨ ∃ l y, g[u]? = some l ∧ y ∈ l ∧ Way g y x := by
  induction h with
  | refl => exact .inl rfl
  | @step v x l h1 hl hx ih =>
    rcases ih with rfl | ⟨l', y, hl', hy, hw⟩
    · exact .inr ⟨l, x, hl, hx, .refl x⟩
    · exact .inr ⟨l', y, hl', hy, .step hw hl hx⟩
theorem Way.come {g : List (List Nat)} {u x : Nat} (h : Way g u x) (hu : Come g u) : Come g x := by
  induction h with
  | refl => exact hu
  | step _ hl hx ih => exact .step ih hl hx (by omega)
/-- each edge leads to one that is behind, or from which a way leads back -/
def Fwd (g : List (List Nat)) (o : List Nat) : Prop := ∀ u post, (u :: post) <:+ o → ∀ l, g[u]? = some l → ∀ v ∈ l, v ∈ post ∨ Way g v u
theorem dfs_fwd {g : List (List Nat)} (G : Gr g) (n : Nat) : ∀ (k : Nat) (A : List Nat) (p : List Nat × List Nat), Tour g A p → Fwd g p.2 → (∀ a ∈ A, Way g a k) → k < g.length → k ∉ p.1 → Come g k → g.length ≤ p.1.length + n → Tour g A (dfs g n k p.1 p.2) ∧ Fwd g (dfs g n k p.1 p.2).2 ∧ k ∈ (dfs g n k p.1 p.2).1 := by
  induction n with
  | zero =>
    intro k A p h _ _ hk hn _ hl
    have := h.seen.room hk hn
    omega
  | succ n ih =>
    intro k A p h hf hA hk hn hc hl
    have hT := dfs_tour G (n + 1) k A p h hk hn hc hl
    refine ⟨hT.1, ?_, hT.2⟩
    obtain ⟨l, hgl⟩ : ∃ l, g[k]? = some l := ⟨_, List.getElem?_eq_getElem hk⟩
    rw [dfs_succ, getD_at hgl]
    have hb := G.below k l hgl
    have hA' : ∀ x ∈ l, ∀ a ∈ k :: A, Way g a x := fun x hx a ha => by
      rcases List.mem_cons.1 ha with rfl | ha
      · exact .step (.refl _) hgl hx
      · exact .step (hA a ha) hgl hx
    have go : ∀ (r : List Nat) (q : List Nat × List Nat), (∀ x ∈ r, x ∈ l) → Tour g (k :: A) q → Fwd g q.2 → g.length ≤ q.1.length + n → Tour g (k :: A) (dfsL g n r q) ∧ Fwd g (dfsL g n r q).2 ∧ (∀ x ∈ q.1, x ∈ (dfsL g n r q).1) ∧ ∀ x ∈ r, x ∈ (dfsL g n r q).1 := by
      intro r
      induction r with
      | nil => intro q _ hq hqf _; exact ⟨hq, hqf, fun x hx => hx, fun x hx => by cases hx⟩
      | cons x r ihr =>
        intro q hr hq hqf hlq
        have e : dfsL g n (x :: r) q = dfsL g n r (if x ∈ q.1 then q else dfs g n x q.1 q.2) := rfl
        rw [e]
        have hxl : x < g.length := hb x (hr x (by simp))
        have step : Tour g (k :: A) (if x ∈ q.1 then q else dfs g n x q.1 q.2) ∧ Fwd g (if x ∈ q.1 then q else dfs g n x q.1 q.2).2 ∧ x ∈ (if x ∈ q.1 then q else dfs g n x q.1 q.2).1 ∧ Kept7 g.length q (if x ∈ q.1 then q else dfs g n x q.1 q.2) := by
          split
          · rename_i hm; exact ⟨hq, hqf, hm, .refl hq.seen⟩
          · rename_i hm
            have h1 := ih x (k :: A) q hq hqf (hA' x (hr x (by simp))) hxl hm (.step hc hgl (hr x (by simp)) (by omega)) hlq
            exact ⟨h1.1, h1.2.1, h1.2.2, dfs_kept G n x q.1 q.2 hq.seen hxl hm⟩
        obtain ⟨s1, s0, s2, s3⟩ := step
        obtain ⟨t1, t0, t2, t3⟩ := ihr _ (fun y hy => hr y (List.mem_cons_of_mem _ hy)) s1 s0 (by have := s3.2.2.1; omega)
        refine ⟨t1, t0, fun y hy => t2 y (s3.2.1 y hy), fun y hy => ?_⟩
        rcases List.mem_cons.1 hy with rfl | hy
        · exact t2 _ s2
        · exact t3 y hy
    have hp : Tour g (k :: A) (putL p.1 k, p.2) := by
      refine ⟨h.seen.put hk, fun x => ?_, fun x hx => ?_, fun x hx l' hl' y hy => ?_, h.once, fun x hx hxa => ?_⟩
      · show x ∈ putL p.1 k ↔ _
        rw [putL_mem, h.parts x, List.mem_cons]
        exact or_assoc.symm
      · rcases (putL_mem p.1 k x).1 hx with rfl | hx
        · exact hc
        · exact h.come x hx
      · exact (putL_mem p.1 k y).2 (.inr (h.closed x hx l' hl' y hy))
      · rcases List.mem_cons.1 hxa with rfl | hxa
        · exact hn ((h.parts x).2 (.inr hx))
        · exact h.apart x hx hxa
    obtain ⟨t1, t0, t2, t3⟩ := go l (putL p.1 k, p.2) (fun x hx => hx) hp hf (by show _ ≤ (putL p.1 k).length + n; rw [putL_len' p.1 k hn]; omega)
    intro u post hs lu hlu v hv
    rcases List.suffix_cons_iff.1 hs with e | hs
    · injection e with e1 e2
      subst e1 e2
      rw [hgl] at hlu
      obtain rfl := Option.some.inj hlu
      rcases (t1.parts v).1 (t3 v hv) with h1 | h1
      · rcases List.mem_cons.1 h1 with rfl | h1
        · exact .inr (.refl _)
        · exact .inr (hA v h1)
      · exact .inl h1
    · exact t0 u post hs lu hlu v hv
theorem order_fwd {g : List (List Nat)} (G : Gr g) : Fwd g (order7 g) :=
  (dfs_fwd G g.length 0 [] ([], []) (tour_start g) (by intro u post hs; simp at hs) (by simp) G.pos (by simp) (.start (by omega)) (by simp)).2.1
/-- a way leads round among the nodes that are come to -/
def Cyc (g : List (List Nat)) : Prop := ∃ S : Nat → Prop, (∃ k, S k) ∧ (∀ k, S k → Come g k) ∧ ∀ k, S k → ∃ l x, g[k]? = some l ∧ x ∈ l ∧ S x
theorem cyc_of_edge {g : List (List Nat)} (G : Gr g) {u v : Nat} (hl : Lead g u v) (h : (order7 g).idxOf v ≤ (order7 g).idxOf u) : Cyc g := by
  obtain ⟨hcu, l, hgl, hv⟩ := hl
  have hu := (order_come G u).2 hcu
  obtain ⟨pre, post, e⟩ := List.append_of_mem hu
  have hno := order_once G
  have hw : Way g v u := by
    rcases order_fwd G u post (by rw [e]; exact List.suffix_append _ _) l hgl v hv with h1 | h1
    · exfalso
      rw [e] at hno h
      have hnu : u ∉ pre := fun hm => by
        have := (List.nodup_append.1 hno).2.2 u hm u (by simp)
        exact this rfl
      have hnv : v ∉ pre := fun hm => by
        have := (List.nodup_append.1 hno).2.2 v hm v (List.mem_cons_of_mem _ h1)
        exact this rfl
      have hne : v ≠ u := fun e2 => by
        subst e2
        exact (List.nodup_cons.1 (List.nodup_append.1 hno).2.1).1 h1
      rw [List.idxOf_append, if_neg hnv, List.idxOf_append, if_neg hnu, List.idxOf_cons_self, List.idxOf_cons, show (u == v) = false from beq_eq_false_iff_ne.2 (fun h => hne h.symm)] at h
      simp at h
      omega
    · exact h1
  have hcv : Come g v := .step hcu hgl hv (by omega)
  refine ⟨fun x => Way g v x ∧ Way g x u, ⟨v, .refl v, hw⟩, fun k hk => hk.1.come hcv, fun k hk => ?_⟩
  rcases hk.2.head with rfl | ⟨l', y, hl', hy, hy2⟩
  · exact ⟨l, v, hgl, hv, .refl v, hw⟩
  · exact ⟨l', y, hl', hy, .step hk.1 hl' hy, hy2⟩
theorem edge_of_cyc {g : List (List Nat)} (G : Gr g) (h : Cyc g) : ∃ u v, Lead g u v ∧ (order7 g).idxOf v ≤ (order7 g).idxOf u := by
  refine Classical.byContradiction fun hn => ?_
  obtain ⟨S, ⟨k, hk⟩, hS, hN⟩ := h
  have : ∀ m k, S k → (order7 g).length - (order7 g).idxOf k = m → False := by
    intro m
    induction m using Nat.strongRecOn with
    | _ m ih =>
      intro k hk hm
      obtain ⟨l, x, hl, hx, hSx⟩ := hN k hk
      have hlt : (order7 g).idxOf k < (order7 g).idxOf x := by
        refine Nat.lt_of_not_le fun hle => hn ⟨k, x, ⟨hS k hk, l, hl, hx⟩, hle⟩
      have hxl := List.idxOf_lt_length_iff.2 ((order_come G x).2 (hS x hSx))
      exact ih _ (by omega) x hSx rfl
  exact this _ k hk rfl
/-- a way leads round without edges to dominators -/
def Cyc2 (g D : List (List Nat)) : Prop := ∃ S : Nat → Prop, (∃ k, S k) ∧ (∀ k, S k → Come g k) ∧ ∀ k, S k → ∃ l x, g[k]? = some l ∧ x ∈ l ∧ isB D (k, x) = false ∧ S x
theorem cyc_fwd {g D : List (List Nat)} (G : Gr g) (hD : IsDoms g D) : Cyc (fwd g D) ↔ Cyc2 g D := by
  constructor
  · rintro ⟨S, h1, h2, h3⟩
    refine ⟨S, h1, fun k hk => (fwd_come G hD k).1 (h2 k hk), fun k hk => ?_⟩
    obtain ⟨l, x, hl, hx, hS⟩ := h3 k hk
    obtain ⟨l', a, b, c⟩ := fwd_mem hl hx
    exact ⟨l', x, a, b, c, hS⟩
  · rintro ⟨S, h1, h2, h3⟩
    refine ⟨S, h1, fun k hk => (fwd_come G hD k).2 (h2 k hk), fun k hk => ?_⟩
    obtain ⟨l, x, hl, hx, hb, hS⟩ := h3 k hk
    exact ⟨_, x, fwd_at hl, List.mem_filter.2 ⟨hx, by simp [hb]⟩, hS⟩
/-- a node leads on to one that is left, not to a dominator -/
def leadB (g D : List (List Nat)) (left : List Nat) (k : Nat) : Bool := (g.getD k []).any fun x => decide (x ∈ left) && !(isB D (k, x))
theorem leadB_iff {g D : List (List Nat)} {left : List Nat} {k : Nat} : leadB g D left k = true ↔ ∃ l x, g[k]? = some l ∧ x ∈ l ∧ isB D (k, x) = false ∧ x ∈ left := by
  unfold leadB
  rw [List.any_eq_true]
  cases e : g[k]? with
  | none => simp [List.getD_eq_getElem?_getD, e]
  | some l =>
    simp only [List.getD_eq_getElem?_getD, e, Option.getD_some, Bool.and_eq_true, decide_eq_true_eq, Bool.not_eq_true']
    constructor
    · rintro ⟨x, h1, h2, h3⟩; exact ⟨l, x, rfl, h1, h3, h2⟩
    · rintro ⟨l', x, h0, h1, h3, h2⟩; cases h0; exact ⟨x, h1, h2, h3⟩
/-- those that are left have all ways round -/
structure LeftIs (g D : List (List Nat)) (left : List Nat) : Prop where
  come : ∀ k ∈ left, Come g k
  few : left.length ≤ 12
  big : ∀ S : Nat → Prop, (∀ k, S k → Come g k) → (∀ k, S k → ∃ l x, g[k]? = some l ∧ x ∈ l ∧ isB D (k, x) = false ∧ S x) → ∀ k, S k → k ∈ left
theorem LeftIs.begin {g D : List (List Nat)} (G : Gr g) {L : List Nat} (h : IsW g (-1) L) : LeftIs g D L := ⟨fun k hk => (h.2 k).1 hk, h.len G, fun S hS _ k hk => (h.2 k).2 (hS k hk)⟩
theorem LeftIs.next {g D : List (List Nat)} {left : List Nat} (h : LeftIs g D left) : LeftIs g D (left.filter (leadB g D left)) := by
  refine ⟨fun k hk => h.come k (List.mem_filter.1 hk).1, Nat.le_trans (List.length_filter_le _ _) h.few, fun S hS hN k hk => List.mem_filter.2 ⟨h.big S hS hN k hk, leadB_iff.2 ?_⟩⟩
  obtain ⟨l, x, h1, h2, h3, h4⟩ := hN k hk
  exact ⟨l, x, h1, h2, h3, h.big S hS hN x h4⟩
theorem LeftIs.end {g D : List (List Nat)} {left : List Nat} (h : LeftIs g D left) (he : (left.filter (leadB g D left)).length = left.length) : 0 < left.length ↔ Cyc2 g D := by
  have hall := List.length_filter_eq_length_iff.1 he
  constructor
  · intro hp
    obtain ⟨k, hk⟩ := List.exists_mem_of_length_pos hp
    exact ⟨fun k => k ∈ left, ⟨k, hk⟩, h.come, fun k hk => leadB_iff.1 (hall k hk)⟩
  · rintro ⟨S, ⟨k, hk⟩, hS, hN⟩
    exact List.length_pos_of_mem (h.big S hS hN k hk)
end

section
open Go
set_option linter.unusedVariables false

theorem take_drop_filter {v : Nat} : ∀ {r : List Nat}, r.Nodup → v ∈ r → r.take (r.idxOf v) ++ r.drop (r.idxOf v + 1) = r.filter (fun x => decide (x ≠ v))
  | [], _, h => by cases h
  | y :: s, hn, h => by
    have hn' := List.nodup_cons.1 hn
    by_cases e : y = v
    · subst e
      rw [List.idxOf_cons_self]
      simp only [List.take_zero, List.nil_append, Nat.zero_add, List.drop_succ_cons, List.drop_zero]
      rw [List.filter_cons_of_neg (by simp)]
      exact (List.filter_eq_self.2 (fun x hx => by simp; rintro rfl; exact hn'.1 hx)).symm
    · have hv : v ∈ s := by
        rcases List.mem_cons.1 h with h | h
        · exact absurd h.symm e
        · exact h
      rw [List.idxOf_cons, show (y == v) = false from beq_eq_false_iff_ne.2 e]
      simp only [cond_false, List.take_succ_cons, List.cons_append, List.drop_succ_cons]
      rw [take_drop_filter hn'.2 hv, List.filter_cons_of_pos (by simp [e])]
/-- without so many edges -/
def Cut (g : List (List Nat)) (es : List (Nat × Nat)) (P : List (List Nat)) : Prop := P.length = g.length ∧ ∀ (k : Nat) l r, g[k]? = some l → P[k]? = some r → r = l.filter fun x => decide ((k, x) ∉ es)
theorem Cut.begin (g : List (List Nat)) : Cut g [] g := ⟨rfl, fun k l r hl hr => by rw [hl] at hr; cases hr; exact (List.filter_eq_self.2 (fun x _ => by simp)).symm⟩
theorem Cut.has {g P : List (List Nat)} {es : List (Nat × Nat)} (h : Cut g es P) {u v : Nat} {l r : List Nat} (hl : g[u]? = some l) (hr : P[u]? = some r) (hv : v ∈ l) (hn : (u, v) ∉ es) : v ∈ r := by
  rw [h.2 u l r hl hr]
  exact List.mem_filter.2 ⟨hv, by simp [hn]⟩
theorem Cut.step {g P : List (List Nat)} (G : Gr g) {es : List (Nat × Nat)} (h : Cut g es P) {u v : Nat} {l r : List Nat} (hl : g[u]? = some l) (hr : P[u]? = some r) (hv : v ∈ r) : Cut g (es ++ [(u, v)]) (P.set u (r.take (r.idxOf v) ++ r.drop (r.idxOf v + 1))) := by
  have hrn : r.Nodup := by rw [h.2 u l r hl hr]; exact (rising_nodup (G.rising u l hl)).filter _
  have hu := (List.getElem?_eq_some_iff.1 hr).1
  refine ⟨by simp [h.1], fun k l' r' hl' hr' => ?_⟩
  by_cases e : k = u
  · subst e
    rw [List.getElem?_set_self hu] at hr'
    obtain rfl := Option.some.inj hr'
    rw [take_drop_filter hrn hv, h.2 k l' r hl' hr, List.filter_filter]
    refine List.filter_congr fun x hx => ?_
    simp only [List.mem_append, List.mem_singleton, Prod.mk.injEq, true_and, not_or, Bool.decide_and]
    rw [Bool.and_comm]
  · rw [List.getElem?_set_ne (fun h => e h.symm)] at hr'
    rw [h.2 k l' r' hl' hr']
    refine List.filter_congr fun x hx => ?_
    simp [e]
theorem Cut.end {g D P : List (List Nat)} (G : Gr g) (hD : IsDoms g D) (h : Cut g (backL g D) P) : P = fwd g D := by
  refine List.ext_getElem? fun k => ?_
  by_cases hk : k < g.length
  · obtain ⟨l, hl⟩ : ∃ l, g[k]? = some l := ⟨_, List.getElem?_eq_getElem hk⟩
    obtain ⟨r, hr⟩ : ∃ r, P[k]? = some r := ⟨_, List.getElem?_eq_getElem (by rw [h.1]; exact hk)⟩
    rw [hr, fwd_at hl, h.2 k l r hl hr]
    congr 1
    refine List.filter_congr fun x hx => ?_
    have : (k, x) ∈ backL g D ↔ isB D (k, x) = true := by
      unfold backL
      rw [List.mem_filter]
      refine ⟨fun h => h.2, fun hb => ⟨(edges_all G k x).2 ⟨((isB_dom hD k x).1 hb).2.1, l, hl, hx⟩, hb⟩⟩
    cases e : isB D (k, x) with
    | true => simp [this.2 e]
    | false => simp [this, e]
  · rw [List.getElem?_eq_none (by rw [h.1]; omega), List.getElem?_eq_none (by rw [fwd_len]; omega)]
theorem edges_once {g : List (List Nat)} (G : Gr g) : (edgesL g).Nodup := by
  unfold edgesL
  refine List.pairwise_flatMap.2 ⟨fun u hu => ?_, ?_⟩
  · unfold edgesAt
    rw [List.pairwise_map]
    cases e : g[u]? with
    | none => simp
    | some l => exact (rising_nodup (G.rising u l e)).imp (fun h h2 => h (by simpa using h2))
  · refine (setL_rising (order7 g)).imp (fun {a b} hab x hx y hy e => ?_)
    unfold edgesAt at hx hy
    obtain ⟨v1, _, rfl⟩ := List.mem_map.1 hx
    obtain ⟨v2, _, rfl⟩ := List.mem_map.1 hy
    have := congrArg Prod.fst e
    simp at this
    omega
theorem back_new {g D : List (List Nat)} (G : Gr g) {pre : List (Nat × Nat)} {x : Nat × Nat} (h : pre ++ [x] <+: backL g D) : x ∉ pre := by
  obtain ⟨rest, hr⟩ := h
  have hn : (backL g D).Nodup := (edges_once G).filter _
  rw [← hr] at hn
  intro hx
  have := (List.nodup_append.1 (List.nodup_append.1 hn).1).2.2 x hx x (by simp)
  exact this rfl
end

section
open Go Go.RowKit Go.Shelf
set_option linter.unusedVariables false

theorem opIn_round {F : Fence} {n : Nat} {P : Program} {o : Oper} {a : Act} {w : World} {K : Act → World → Prop} {Q : Exit → Act → World → Prop} (l : Nat) (hro : F.round = none) (hd : ∀ c, o.op ≠ .defer c) (h : o.wpIn F n P a w K Q) : o.wpIn (F.inRound l) n P a w K Q := by
  unfold Oper.wpIn at h ⊢
  refine ⟨h.1, ?_⟩
  have h2 := h.2
  rw [hro, Oper.semAt_none] at h2
  rw [Oper.semAt_eq _ _ _ hd]
  exact h2
theorem anyIn_round {F : Fence} {n : Nat} {P : Program} {md : Region.Mode} {ops : Array Oper} {Q : Exit → Act → World → Prop} (l : Nat) (hro : F.round = none) (hd : ∀ (i : Nat) (o : Oper), ops[i]? = some o → ∀ c, o.op ≠ .defer c) :
    ∀ (fuel : Nat) (listed : Array Bool) (a : Act) (w : World), wpAnyIn F n P md ops Q fuel listed a w → wpAnyIn (F.inRound l) n P md ops Q fuel listed a w
  | 0, _, _, _, h => h
  | fuel + 1, listed, a, w, h => by
    refine ⟨h.1, fun i hi => ?_⟩
    have h2 := h.2 i hi
    unfold wpOpIn at h2 ⊢
    cases ho : ops[i]? with
    | none => rw [ho] at h2; exact anyIn_round l hro hd fuel _ _ _ h2
    | some o =>
      rw [ho] at h2
      simp only [] at h2 ⊢
      by_cases hw : Region.wanted o (yielded ops a.tmps) = true
      · rw [if_pos hw] at h2 ⊢
        exact opIn_round l hro (hd i o ho) (Oper.wpIn_mono (fun a w hh => anyIn_round l hro hd fuel _ a w hh) h2)
      · rw [if_neg hw] at h2 ⊢
        exact ⟨h2.1, anyIn_round l hro hd fuel _ _ _ h2.2⟩
def noDefer (ops : Array Oper) : Bool := ops.all fun o => match o.op with | .defer _ => false | _ => true
theorem noDefer_spec {ops : Array Oper} (h : noDefer ops = true) : ∀ (i : Nat) (o : Oper), ops[i]? = some o → ∀ c, o.op ≠ .defer c := by
  intro i o ho c hc
  obtain ⟨hi, rfl⟩ := Array.getElem?_eq_some_iff.1 ho
  have := Array.all_eq_true.1 h i hi
  rw [hc] at this
  cases this
theorem region_round {F : Fence} {n : Nat} {P : Program} {id : Nat} {ops : Array Oper} {Q : Exit → Act → World → Prop} {a : Act} {w : World} {l : Nat} (hro : F.round = none) (hm : P.follows .mixedOrders = true) (hd : noDefer ops = true)
    (h : wpAnyIn F n P .any ops Q ops.size (Array.replicate ops.size false) a w.drew) : (Code.region id ops true).wpIn (F.inRound l) n P Q a w :=
  wpIn_region_any hm (anyIn_round l hro (noDefer_spec hd) _ _ _ _ h)
end

section
open Go
set_option linter.unusedVariables false

/-- a node of the loop of a head: the head, a start of a back edge to it, or one that leads to such a node without going through the head -/
inductive InB (g D : List (List Nat)) (h : Nat) : Nat → Prop
  | head : InB g D h h
  | start {u : Nat} : (u, h) ∈ backL g D → InB g D h u
  | back {x k : Nat} : InB g D h x → x ≠ h → Lead g k x → InB g D h k
def IsBody (g D : List (List Nat)) (h : Nat) (S : List Nat) : Prop := S.Pairwise (· < ·) ∧ ∀ x, x ∈ S ↔ InB g D h x
theorem IsBody.unique {g D : List (List Nat)} {h : Nat} {S T : List Nat} (a : IsBody g D h S) (b : IsBody g D h T) : S = T := rising_unique a.1 b.1 (fun x => (a.2 x).trans (b.2 x).symm)
theorem backL_lead {g D : List (List Nat)} (G : Gr g) {u v : Nat} (h : (u, v) ∈ backL g D) : Lead g u v := (edges_all G u v).1 (List.mem_filter.1 h).1
theorem Lead.come' {g : List (List Nat)} {u v : Nat} (h : Lead g u v) : Come g v := by
  obtain ⟨hc, l, hl, hv⟩ := h
  exact .step hc hl hv (by omega)
theorem InB.come {g D : List (List Nat)} (G : Gr g) {h x : Nat} (hh : Come g h) (i : InB g D h x) : Come g x := by
  cases i with
  | head => exact hh
  | start hb => exact (backL_lead G hb).1
  | back _ _ hl => exact hl.1
theorem IsBody.few {g D : List (List Nat)} (G : Gr g) {h : Nat} (hh : Come g h) {S : List Nat} (b : IsBody g D h S) : S.length ≤ 12 := by
  have h8 := nodup_le (n := g.length) (rising_nodup b.1) (fun x hx => RchW.lt G (((b.2 x).1 hx).come G hh))
  have := G.most
  omega
/-- the program: those that are found, and those that wait -/
structure Gath (g D : List (List Nat)) (h : Nat) (found waiting : List Nat) : Prop where
  rising : found.Pairwise (· < ·)
  foundIn : ∀ x ∈ found, InB g D h x
  waitIn : ∀ x ∈ waiting, InB g D h x
  head : h ∈ found
  starts : ∀ u, (u, h) ∈ backL g D → u ∈ found ∨ u ∈ waiting
  closed : ∀ x ∈ found, x ≠ h → ∀ k, Lead g k x → k ∈ found ∨ k ∈ waiting
theorem Gath.begin {g D : List (List Nat)} {h : Nat} {S : List Nat} (hS : ∀ u, u ∈ S ↔ (u, h) ∈ backL g D) : Gath g D h [h] S :=
  ⟨by simp, fun x hx => by simp at hx; subst hx; exact .head, fun x hx => .start ((hS x).1 hx), by simp, fun u hu => .inr ((hS u).2 hu), fun x hx hn => by simp at hx; exact absurd hx hn⟩
theorem Gath.skip {g D : List (List Nat)} {h a : Nat} {f w : List Nat} (s : Gath g D h f (a :: w)) (ha : a ∈ f) : Gath g D h f w := by
  refine ⟨s.rising, s.foundIn, fun x hx => s.waitIn x (List.mem_cons_of_mem _ hx), s.head, fun u hu => ?_, fun x hx hn k hk => ?_⟩
  · rcases s.starts u hu with h1 | h1
    · exact .inl h1
    · rcases List.mem_cons.1 h1 with rfl | h1
      · exact .inl ha
      · exact .inr h1
  · rcases s.closed x hx hn k hk with h1 | h1
    · exact .inl h1
    · rcases List.mem_cons.1 h1 with rfl | h1
      · exact .inl ha
      · exact .inr h1
theorem Gath.add {g D : List (List Nat)} {h a : Nat} {f w L : List Nat} (s : Gath g D h f (a :: w)) (ha : a ∉ f) (hL : ∀ k, k ∈ L ↔ Lead g k a) : Gath g D h (putL f a) (w ++ L) := by
  have hah : a ≠ h := fun e => ha (by rw [e]; exact s.head)
  have hin : InB g D h a := s.waitIn a (by simp)
  refine ⟨putL_rising s.rising a, fun x hx => ?_, fun x hx => ?_, (putL_mem f a h).2 (.inr s.head), fun u hu => ?_, fun x hx hn k hk => ?_⟩
  · rcases (putL_mem f a x).1 hx with rfl | hx
    · exact hin
    · exact s.foundIn x hx
  · rcases List.mem_append.1 hx with hx | hx
    · exact s.waitIn x (List.mem_cons_of_mem _ hx)
    · exact .back hin hah ((hL x).1 hx)
  · rcases s.starts u hu with h1 | h1
    · exact .inl ((putL_mem f a u).2 (.inr h1))
    · rcases List.mem_cons.1 h1 with rfl | h1
      · exact .inl ((putL_mem f _ _).2 (.inl rfl))
      · exact .inr (List.mem_append_left _ h1)
  · rcases (putL_mem f a x).1 hx with rfl | hx
    · exact .inr (List.mem_append_right _ ((hL k).2 hk))
    · rcases s.closed x hx hn k hk with h1 | h1
      · exact .inl ((putL_mem f a k).2 (.inr h1))
      · rcases List.mem_cons.1 h1 with rfl | h1
        · exact .inl ((putL_mem f _ _).2 (.inl rfl))
        · exact .inr (List.mem_append_left _ h1)
theorem Gath.end {g D : List (List Nat)} {h : Nat} {f : List Nat} (s : Gath g D h f []) : IsBody g D h f := by
  refine ⟨s.rising, fun x => ⟨s.foundIn x, fun i => ?_⟩⟩
  induction i with
  | head => exact s.head
  | start hb => exact (s.starts _ hb).resolve_right (by simp)
  | back _ hn hl ih => exact (s.closed _ ih hn _ hl).resolve_right (by simp)
/-- the model: what is gathered so far -/
structure Clos (g D : List (List Nat)) (h : Nat) (body : List Nat) : Prop where
  rising : body.Pairwise (· < ·)
  bodyIn : ∀ x ∈ body, InB g D h x
  head : h ∈ body
  starts : ∀ u, (u, h) ∈ backL g D → u ∈ body
theorem Clos.put {g D : List (List Nat)} {h k x : Nat} {body : List Nat} (s : Clos g D h body) (hx : x ∈ body) (hn : x ≠ h) (hl : Lead g k x) : Clos g D h (putL body k) := by
  refine ⟨putL_rising s.rising k, fun y hy => ?_, (putL_mem _ _ _).2 (.inr s.head), fun u hu => (putL_mem _ _ _).2 (.inr (s.starts u hu))⟩
  rcases (putL_mem body k y).1 hy with rfl | hy
  · exact .back (s.bodyIn x hx) hn hl
  · exact s.bodyIn y hy
theorem Clos.end {g D : List (List Nat)} {h : Nat} {body : List Nat} (s : Clos g D h body) (he : ∀ k x, Lead g k x → k ∉ body → x ≠ h → x ∉ body) : IsBody g D h body := by
  refine ⟨s.rising, fun x => ⟨s.bodyIn x, fun i => ?_⟩⟩
  induction i with
  | head => exact s.head
  | start hb => exact s.starts _ hb
  | @back x k _ hn hl ih => exact Classical.byContradiction fun hk => he k x hl hk hn ih
/-- there is a loop of each head, and one alone -/
theorem body_is {g D : List (List Nat)} (G : Gr g) {h : Nat} (hh : Come g h) : ∃ S, IsBody g D h S := by
  classical
  refine ⟨(List.range g.length).filter fun x => decide (InB g D h x), List.Pairwise.filter _ List.pairwise_lt_range, fun x => ?_⟩
  rw [List.mem_filter, List.mem_range, decide_eq_true_iff]
  exact ⟨fun h => h.2, fun i => ⟨RchW.lt G (i.come G hh), i⟩⟩
end

section
open Go
set_option linter.unusedVariables false

def isHead (g D : List (List Nat)) (h : Nat) : Bool := (backL g D).any fun e => e.2 == h
theorem isHead_iff {g D : List (List Nat)} {h : Nat} : isHead g D h = true ↔ ∃ u, (u, h) ∈ backL g D := by
  unfold isHead
  rw [List.any_eq_true]
  constructor
  · rintro ⟨⟨u, v⟩, hm, he⟩
    have : v = h := by simpa using he
    subst this
    exact ⟨u, hm⟩
  · rintro ⟨u, hm⟩
    exact ⟨(u, h), hm, by simp⟩
theorem isHead.come {g D : List (List Nat)} (G : Gr g) {h : Nat} (hh : isHead g D h = true) : Come g h := by
  obtain ⟨u, hu⟩ := isHead_iff.1 hh
  exact (backL_lead G hu).come'
/-- the loops of the heads below m -/
structure Rings (g D : List (List Nat)) (m : Nat) (L : List (Nat × List Nat)) : Prop where
  heads : L.map Prod.fst = (List.range m).filter (isHead g D)
  body : ∀ x ∈ L, IsBody g D x.1 x.2
theorem Rings.begin (g D : List (List Nat)) : Rings g D 0 [] := ⟨rfl, by simp⟩
theorem Rings.skip {g D : List (List Nat)} {m : Nat} {L : List (Nat × List Nat)} (r : Rings g D m L) (h : isHead g D m = false) : Rings g D (m + 1) L := ⟨by rw [r.heads, List.range_succ, List.filter_append]; simp [h], r.body⟩
theorem Rings.add {g D : List (List Nat)} {m : Nat} {L : List (Nat × List Nat)} {S : List Nat} (r : Rings g D m L) (h : isHead g D m = true) (b : IsBody g D m S) : Rings g D (m + 1) (L ++ [(m, S)]) := by
  refine ⟨by rw [List.map_append, r.heads, List.range_succ, List.filter_append]; simp [h], fun x hx => ?_⟩
  rcases List.mem_append.1 hx with hx | hx
  · exact r.body x hx
  · simp at hx
    subst hx
    exact b
theorem map_unique {g D : List (List Nat)} : ∀ {L M : List (Nat × List Nat)}, L.map Prod.fst = M.map Prod.fst → (∀ x ∈ L, IsBody g D x.1 x.2) → (∀ x ∈ M, IsBody g D x.1 x.2) → L = M
  | [], [], _, _, _ => rfl
  | [], _ :: _, h, _, _ => by simp at h
  | _ :: _, [], h, _, _ => by simp at h
  | (h, S) :: L, (k, T) :: M, e, a, b => by
    simp only [List.map_cons, List.cons.injEq] at e
    obtain ⟨rfl, e⟩ := e
    have h1 : S = T := (a (h, S) (by simp)).unique (b (h, T) (by simp))
    have h2 : L = M := map_unique e (fun x hx => a x (by simp [hx])) (fun x hx => b x (by simp [hx]))
    rw [h1, h2]
theorem Rings.unique {g D : List (List Nat)} {m : Nat} {L M : List (Nat × List Nat)} (a : Rings g D m L) (b : Rings g D m M) : L = M := map_unique (a.heads.trans b.heads.symm) a.body b.body
theorem Rings.le {g D : List (List Nat)} {m : Nat} {L : List (Nat × List Nat)} (a : Rings g D m L) : L.length ≤ m := by
  have h1 : (L.map Prod.fst).length ≤ m := by
    rw [a.heads]
    exact Nat.le_trans (List.length_filter_le _ _) (by simp)
  simpa using h1
theorem Rings.mem {g D : List (List Nat)} {m : Nat} {L : List (Nat × List Nat)} (a : Rings g D m L) {x : Nat × List Nat} (hx : x ∈ L) : x.1 < m ∧ isHead g D x.1 = true ∧ IsBody g D x.1 x.2 := by
  have h1 : x.1 ∈ L.map Prod.fst := List.mem_map.2 ⟨x, hx, rfl⟩
  rw [a.heads, List.mem_filter, List.mem_range] at h1
  exact ⟨h1.1, h1.2, a.body x hx⟩
theorem Rings.rising {g D : List (List Nat)} {m : Nat} {L : List (Nat × List Nat)} (a : Rings g D m L) : (L.map Prod.fst).Pairwise (· < ·) := by
  rw [a.heads]
  exact List.Pairwise.filter _ List.pairwise_lt_range
/-- there are such loops -/
theorem rings_is {g D : List (List Nat)} (G : Gr g) : ∀ m, ∃ L, Rings g D m L
  | 0 => ⟨[], Rings.begin g D⟩
  | m + 1 => by
    obtain ⟨L, hL⟩ := rings_is G m
    cases h : isHead g D m
    · exact ⟨L, hL.skip h⟩
    · obtain ⟨S, hS⟩ := body_is (D := D) G (isHead.come G h)
      exact ⟨_, hL.add h hS⟩
def lessThan (L : List (Nat × List Nat)) (x : Nat × List Nat) : Option Nat → Bool
  | none => true
  | some b => decide (x.2.length < ((L[b]?).getD x).2.length)
/-- the place of the least of those that fit, of as great ones the first -/
def leastTo (L : List (Nat × List Nat)) (p : Nat × List Nat → Bool) : Nat → Option Nat
  | 0 => none
  | k + 1 => match L[k]? with
    | none => leastTo L p k
    | some x => if (p x && lessThan L x (leastTo L p k)) = true then some k else leastTo L p k
theorem leastTo_lt {L : List (Nat × List Nat)} {p : Nat × List Nat → Bool} : ∀ {k b : Nat}, leastTo L p k = some b → b < k ∧ b < L.length
  | 0, b, h => by simp [leastTo] at h
  | k + 1, b, h => by
    unfold leastTo at h
    cases hx : L[k]? with
    | none =>
      rw [hx] at h
      have := leastTo_lt h
      omega
    | some x =>
      rw [hx] at h
      dsimp only at h
      have hk : k < L.length := (List.getElem?_eq_some_iff.1 hx).1
      split at h
      · injection h with h
        omega
      · have := leastTo_lt h
        omega
end

section
open Go
set_option linter.unusedVariables false

/-- whether all of one list lie in another -/
def allIn (a b : List Nat) : Bool := b.all fun x => decide (x ∈ a)
/-- the loops that a loop may lie in -/
def liesIn (L : List (Nat × List Nat)) (i : Nat) (x : Nat × List Nat) : Bool := match L[i]? with
  | none => false
  | some y => decide (x.1 ≠ y.1) && allIn x.2 y.2
def upI : Option Nat → Int
  | none => -1
  | some b => b
/-- the place of the loop that a loop lies in, of the first so many -/
def upTo (L : List (Nat × List Nat)) (i k : Nat) : Int := upI (leastTo L (liesIn L i) k)
theorem upTo_zero (L : List (Nat × List Nat)) (i : Nat) : upTo L i 0 = -1 := rfl
theorem upTo_step {L : List (Nat × List Nat)} {i k : Nat} {x : Nat × List Nat} (hx : L[k]? = some x) (h : liesIn L i x = false) : upTo L i (k + 1) = upTo L i k := by
  unfold upTo
  conv => lhs; unfold leastTo
  rw [hx]
  simp [h]
theorem upTo_new {L : List (Nat × List Nat)} {i k : Nat} {x : Nat × List Nat} (hx : L[k]? = some x) (h : liesIn L i x = true) (hn : upTo L i k < 0) : upTo L i (k + 1) = k := by
  unfold upTo at hn ⊢
  unfold leastTo
  rw [hx]
  cases he : leastTo L (liesIn L i) k with
  | none => simp [h, upI, lessThan]
  | some b => rw [he] at hn; simp [upI] at hn; omega
theorem upTo_less {L : List (Nat × List Nat)} {i k b : Nat} {x y : Nat × List Nat} (hx : L[k]? = some x) (h : liesIn L i x = true) (hb : upTo L i k = b) (hy : L[b]? = some y) : upTo L i (k + 1) = if x.2.length < y.2.length then (k : Int) else b := by
  unfold upTo at hb ⊢
  conv => lhs; unfold leastTo
  rw [hx]
  cases he : leastTo L (liesIn L i) k with
  | none => rw [he] at hb; simp [upI] at hb; try omega
  | some b' =>
    rw [he] at hb
    have hbb : b' = b := by have h1 : ((b' : Nat) : Int) = (b : Int) := hb; omega
    subst hbb
    simp only [h, hy, lessThan, Bool.true_and, Option.getD_some]
    by_cases hl : x.2.length < y.2.length
    · simp [hl, upI]
    · simp [hl, upI]
theorem upTo_range {L : List (Nat × List Nat)} {i k : Nat} (h : ¬ upTo L i k < 0) : ∃ b, upTo L i k = (b : Nat) ∧ b < L.length := by
  unfold upTo at h ⊢
  cases he : leastTo L (liesIn L i) k with
  | none => rw [he] at h; simp [upI] at h
  | some b => exact ⟨b, rfl, (leastTo_lt he).2⟩
theorem upTo_bound {L : List (Nat × List Nat)} {i k : Nat} : -1 ≤ upTo L i k ∧ upTo L i k ≤ L.length := by
  by_cases h : upTo L i k < 0
  · unfold upTo at h ⊢
    cases he : leastTo L (liesIn L i) k with
    | none => simp [upI]; try omega
    | some b => rw [he] at h; simp [upI] at h; omega
  · obtain ⟨b, hb, hl⟩ := upTo_range h
    omega
/-- the heads are unlike -/
theorem Rings.apart {g D : List (List Nat)} {m : Nat} {L : List (Nat × List Nat)} (a : Rings g D m L) {i k : Nat} {x y : Nat × List Nat} (hx : L[i]? = some x) (hy : L[k]? = some y) : x.1 = y.1 ↔ i = k := by
  have hr := List.pairwise_iff_getElem.1 a.rising
  have hil := (List.getElem?_eq_some_iff.1 hx).1
  have hkl := (List.getElem?_eq_some_iff.1 hy).1
  have hix := (List.getElem?_eq_some_iff.1 hx).2
  have hky := (List.getElem?_eq_some_iff.1 hy).2
  constructor
  · intro e
    rcases Nat.lt_trichotomy i k with h | h | h
    · have := hr i k (by simpa using hil) (by simpa using hkl) h
      simp only [List.getElem_map, hix, hky] at this
      omega
    · exact h
    · have := hr k i (by simpa using hkl) (by simpa using hil) h
      simp only [List.getElem_map, hix, hky] at this
      omega
  · rintro rfl
    rw [hx] at hy
    injection hy with e
    rw [e]
theorem liesIn_self {g D : List (List Nat)} {m : Nat} {L : List (Nat × List Nat)} (a : Rings g D m L) {i : Nat} {x : Nat × List Nat} (hx : L[i]? = some x) : liesIn L i x = false := by unfold liesIn; rw [hx]; simp
theorem liesIn_other {g D : List (List Nat)} {m : Nat} {L : List (Nat × List Nat)} (a : Rings g D m L) {i k : Nat} {x y : Nat × List Nat} (hx : L[k]? = some x) (hy : L[i]? = some y) (h : i ≠ k) : liesIn L i x = allIn x.2 y.2 := by
  unfold liesIn
  rw [hy]
  have : x.1 ≠ y.1 := fun e => h ((a.apart hx hy).1 e).symm
  simp [this]
/-- the model's body, while the back edges are gone through -/
def Bgn (h : Nat) (es : List (Nat × Nat)) (body : List Nat) : Prop := body.Pairwise (· < ·) ∧ ∀ x, x ∈ body ↔ x = h ∨ (x, h) ∈ es
theorem Bgn.begin (h : Nat) : Bgn h [] [h] := ⟨by simp, by simp⟩
theorem Bgn.skip {h : Nat} {es : List (Nat × Nat)} {body : List Nat} (b : Bgn h es body) {u v : Nat} (hv : v ≠ h) : Bgn h (es ++ [(u, v)]) body := ⟨b.1, fun x => by rw [b.2 x, List.mem_append, List.mem_singleton, Prod.mk.injEq]; exact ⟨fun h => h.imp id .inl, fun h => h.imp id fun h => h.resolve_right fun e => hv e.2.symm⟩⟩
theorem Bgn.put {h : Nat} {es : List (Nat × Nat)} {body : List Nat} (b : Bgn h es body) (u : Nat) : Bgn h (es ++ [(u, h)]) (putL body u) := by
  refine ⟨putL_rising b.1 u, fun x => ?_⟩
  rw [putL_mem, b.2 x, List.mem_append, List.mem_singleton, Prod.mk.injEq]
  constructor
  · rintro (rfl | rfl | h1)
    · exact .inr (.inr ⟨rfl, rfl⟩)
    · exact .inl rfl
    · exact .inr (.inl h1)
  · rintro (rfl | h1 | ⟨rfl, -⟩)
    · exact .inr (.inl rfl)
    · exact .inr (.inr h1)
    · exact .inl rfl
theorem Bgn.clos {g D : List (List Nat)} {h : Nat} {body : List Nat} (b : Bgn h (backL g D) body) : Clos g D h body := ⟨b.1, fun x hx => by
  rcases (b.2 x).1 hx with rfl | h1
  · exact .head
  · exact .start h1, (b.2 h).2 (.inl rfl), fun u hu => (b.2 u).2 (.inr hu)⟩
theorem Clos.few {g D : List (List Nat)} (G : Gr g) {h : Nat} (hh : Come g h) {body : List Nat} (s : Clos g D h body) : body.length ≤ 12 := by
  have h8 := nodup_le (n := g.length) (rising_nodup s.rising) (fun x hx => RchW.lt G ((s.bodyIn x hx).come G hh))
  have := G.most
  omega
theorem putL_one {l : List Nat} (hl : l.Pairwise (· < ·)) {n : Nat} (h : n ∉ l) : (putL l n).length = l.length + 1 := by
  rw [putL_pos hl h]
  have := posL_le l n
  simp
  omega
/-- a round of the model's search: what is found grows, or all of it was looked at -/
structure Grow (g D : List (List Nat)) (h : Nat) (b0 : List Nat) (ks : List Nat) (b : Bool) (body : List Nat) : Prop where
  clos : Clos g D h body
  le : b0.length ≤ body.length
  more : b = true → b0.length < body.length
  same : b = false → body = b0 ∧ ∀ k ∈ ks, k ∉ b0 → ∀ l, g[k]? = some l → ∀ x ∈ l, x ≠ h → x ∉ b0
theorem Grow.begin {g D : List (List Nat)} {h : Nat} {b0 : List Nat} (c : Clos g D h b0) : Grow g D h b0 [] false b0 := ⟨c, Nat.le_refl _, (fun e => by cases e), fun _ => ⟨rfl, by simp⟩⟩
theorem Grow.skip {g D : List (List Nat)} {h : Nat} {b0 ks body : List Nat} {b : Bool} (s : Grow g D h b0 ks b body) {k : Nat} (hk : k ∈ body) : Grow g D h b0 (ks ++ [k]) b body := ⟨s.clos, s.le, s.more, fun e => ⟨(s.same e).1, fun j hj hn => by
  rcases List.mem_append.1 hj with hj | hj
  · exact (s.same e).2 j hj hn
  · simp at hj
    subst hj
    rw [(s.same e).1] at hk
    exact absurd hk hn⟩⟩
/-- the same, within the edges of one node -/
structure Grow1 (g D : List (List Nat)) (h : Nat) (b0 : List Nat) (ks : List Nat) (k : Nat) (xs : List Nat) (b : Bool) (body : List Nat) : Prop where
  grow : Grow g D h b0 ks b body
  inn : k ∈ body → b = true
  none : b = false → ∀ x ∈ xs, x ≠ h → x ∉ b0
theorem Grow1.begin {g D : List (List Nat)} {h : Nat} {b0 ks body : List Nat} {b : Bool} {k : Nat} (s : Grow g D h b0 ks b body) (hk : k ∉ body) : Grow1 g D h b0 ks k [] b body := ⟨s, fun h => absurd h hk, fun _ => by simp⟩
theorem Grow1.skip {g D : List (List Nat)} {h : Nat} {b0 ks xs body : List Nat} {b : Bool} {k x : Nat} (s : Grow1 g D h b0 ks k xs b body) (hx : x = h ∨ x ∉ body) : Grow1 g D h b0 ks k (xs ++ [x]) b body := ⟨s.grow, s.inn, fun e y hy hn => by
  rcases List.mem_append.1 hy with hy | hy
  · exact s.none e y hy hn
  · simp at hy
    subst hy
    have := (s.grow.same e).1
    rw [← this]
    exact hx.resolve_left hn⟩
theorem Grow1.put {g D : List (List Nat)} {h : Nat} {b0 ks xs body : List Nat} {b : Bool} {k x : Nat} (s : Grow1 g D h b0 ks k xs b body) (hx : x ∈ body) (hn : x ≠ h) (hl : Lead g k x) : Grow1 g D h b0 ks k (xs ++ [x]) true (putL body k) := by
  have hle := s.grow.le
  have hlt : b0.length < (putL body k).length := by
    by_cases hk : k ∈ body
    · rw [putL_same s.grow.clos.rising hk]
      exact s.grow.more (s.inn hk)
    · rw [putL_one s.grow.clos.rising hk]
      omega
  exact ⟨⟨s.grow.clos.put hx hn hl, Nat.le_of_lt hlt, fun _ => hlt, (fun e => by cases e)⟩, fun _ => rfl, (fun e => by cases e)⟩
theorem Grow1.end {g D : List (List Nat)} {h : Nat} {b0 ks l body : List Nat} {b : Bool} {k : Nat} (s : Grow1 g D h b0 ks k l b body) (hl : g[k]? = some l) : Grow g D h b0 (ks ++ [k]) b body := ⟨s.grow.clos, s.grow.le, s.grow.more, fun e => ⟨(s.grow.same e).1, fun j hj hn l' hl' => by
  rcases List.mem_append.1 hj with hj | hj
  · exact (s.grow.same e).2 j hj hn l' hl'
  · simp at hj
    subst hj
    rw [hl] at hl'
    injection hl' with e2
    subst e2
    exact s.none e⟩⟩
theorem Grow.end {g D : List (List Nat)} {h : Nat} {b0 ks body : List Nat} (s : Grow g D h b0 ks false body) (hks : ∀ k, k ∈ ks ↔ Come g k) : IsBody g D h body := by
  obtain ⟨rfl, hc⟩ := s.same rfl
  refine s.clos.end fun k x hl hk hn => ?_
  obtain ⟨h1, l, h2, h3⟩ := hl
  exact hc k ((hks k).2 h1) hk l h2 x h3 hn
end

section
open Go Go.RowKit
set_option linter.unusedVariables false
set_option linter.unusedSimpArgs false
set_option maxRecDepth 100000

/-- a loop as it lies: its head, its body, the slice of that -/
structure RV where
  h : Nat
  s : List Nat
  v : Value
def cellsR (ys : List RV) : List Value := ys.flatMap fun y => [.int .i64 (y.h : Int), y.v]
def rowR (y : RV) : OR := ⟨3, 1, y.v, y.s.length, ints (nats y.s)⟩
def loopsR (ys : List RV) : List (Nat × List Nat) := ys.map fun y => (y.h, y.s)
def OwnG (w : World) (B : Nat) (v : Value) (ys : List RV) : Prop := Sep w B (⟨62, 2, v, ys.length, cellsR ys⟩ :: ys.map rowR)
theorem cellsR_at : ∀ {ys : List RV} {i : Nat} {y : RV}, ys[i]? = some y → (cellsR ys)[i * 2]? = some (.int .i64 (y.h : Int)) ∧ (cellsR ys)[i * 2 + 1]? = some y.v
  | [], i, y, h => by simp at h
  | x :: xs, 0, y, h => by
    simp at h
    subst h
    exact ⟨rfl, rfl⟩
  | x :: xs, i + 1, y, h => by
    have := cellsR_at (ys := xs) (i := i) (y := y) (by simpa using h)
    rw [show (i + 1) * 2 = i * 2 + 1 + 1 by omega]
    show ([.int .i64 (x.h : Int), x.v] ++ cellsR xs)[_]? = _ ∧ ([.int .i64 (x.h : Int), x.v] ++ cellsR xs)[_]? = _
    exact ⟨by simpa using this.1, by simpa using this.2⟩
theorem cellsR_len (ys : List RV) : (cellsR ys).length = 2 * ys.length := by
  induction ys with
  | nil => rfl
  | cons y ys ih => show ([.int .i64 (y.h : Int), y.v] ++ cellsR ys).length = _; rw [List.length_append, ih]; simp; omega
theorem cellsR_snoc (ys : List RV) (y : RV) : cellsR (ys ++ [y]) = cellsR ys ++ [.int .i64 (y.h : Int), y.v] := by simp [cellsR]
theorem loopsR_len (ys : List RV) : (loopsR ys).length = ys.length := by simp [loopsR]
theorem loopsR_snoc (ys : List RV) (y : RV) : loopsR (ys ++ [y]) = loopsR ys ++ [(y.h, y.s)] := by simp [loopsR]
theorem loopsR_at {ys : List RV} {i : Nat} {y : RV} (h : ys[i]? = some y) : (loopsR ys)[i]? = some (y.h, y.s) := by simp [loopsR, h]
theorem loopsR_back {ys : List RV} {i : Nat} {x : Nat × List Nat} (h : (loopsR ys)[i]? = some x) : ∃ y, ys[i]? = some y ∧ x = (y.h, y.s) := by
  rw [loopsR, List.getElem?_map] at h
  cases hy : ys[i]? with
  | none => rw [hy] at h; simp at h
  | some y => rw [hy] at h; simp at h; exact ⟨y, rfl, h.symm⟩
theorem OwnG.nil (w : World) (B : Nat) : OwnG w B (.slice none 0 0) [] := Sep.cons (Sep.nil _ _) (World.ownsRow_nil _ _ _ _) (by simp)
theorem OwnG.below {w w' : World} {B : Nat} {v : Value} {ys : List RV} (h : OwnG w B v ys) (hb : Below w.heap.size w w') : OwnG w' B v ys := Sep.below h hb
theorem OwnG.mono {w : World} {B B' : Nat} {v : Value} {ys : List RV} (h : OwnG w B v ys) (hB : B' ≤ B) : OwnG w B' v ys := Sep.mono h hB
theorem OwnG.slice {w : World} {B : Nat} {v : Value} {ys : List RV} (h : OwnG w B v ys) : ∃ a c, v = .slice a ys.length c := by
  have := Sep.get h (x := ⟨62, 2, v, ys.length, cellsR ys⟩) (by simp)
  rcases this.2 with ⟨h0, h1⟩ | ⟨g', cap, cur, he, _⟩
  · simp only [] at h0 h1 ⊢
    first | exact ⟨_, _, by rw [h0]; exact h1⟩ | exact ⟨_, _, by rw [h1]; exact h0⟩
  · exact ⟨_, _, he⟩
/-- what lies at a place -/
theorem OwnG.at {w : World} {B : Nat} {a : Option Addr} {c n : Nat} {ys : List RV} (h : OwnG w B (.slice a n c) ys) {i : Nat} {y : RV} (hy : ys[i]? = some y) : ∃ b ra rc, a = some ⟨b, 0, none⟩ ∧ B ≤ b ∧ b < w.heap.size ∧ w.cell? ⟨b, i * 2, none⟩ = some (.int .i64 (y.h : Int)) ∧ w.cell? ⟨b, i * 2 + 1, none⟩ = some (.slice ra y.s.length rc) ∧ w.ownsRow B 3 1 (.slice ra y.s.length rc) y.s.length (ints (nats y.s)) ∧ y.v = .slice ra y.s.length rc := by
  have ho := Sep.get h (x := ⟨62, 2, .slice a n c, ys.length, cellsR ys⟩) (by simp)
  have hr := Sep.get h (x := rowR y) (List.mem_cons_of_mem _ (List.mem_map_of_mem (List.mem_of_getElem? hy)))
  have hi := (List.getElem?_eq_some_iff.1 hy).1
  obtain ⟨b, rfl⟩ : ∃ b, a = some ⟨b, 0, none⟩ := by
    rcases ho.2 with ⟨h0, h1⟩ | ⟨g', cap, cur, he, _⟩
    · simp only [] at h0 h1; omega
    · injection he with e1 _ _; exact ⟨g', e1⟩
  obtain ⟨ra, rc, hv⟩ : ∃ ra rc, y.v = .slice ra y.s.length rc := by
    rcases hr.2 with ⟨h0, h1⟩ | ⟨g', cap, cur, he, _⟩
    · simp only [rowR] at h0 h1
      first | exact ⟨_, _, by rw [h0]; exact h1⟩ | exact ⟨_, _, by rw [h1]; exact h0⟩
    · exact ⟨_, _, he⟩
  have hs := Sep.size h (x := ⟨62, 2, .slice (some ⟨b, 0, none⟩) n c, ys.length, cellsR ys⟩) (by simp) (g := b) rfl
  refine ⟨b, ra, rc, rfl, hs.1, hs.2, rowT_at ho rfl (cellsR_at hy).1, ?_, ?_, hv⟩
  · rw [← hv]
    exact rowT_at ho rfl (cellsR_at hy).2
  · rw [← hv]
    exact hr
theorem info78 : (Tryz.prog.info? 62).map (fun i => (i.zero, i.size, i.bytes)) = some (some (.agg #[.int .i64 0, .slice none 0 0]), 2, 32) := by kernel_rfl
theorem eltRing : Elt 56 62 2 32 := by
  obtain ⟨i0, hi, hz0, hz1, hz2⟩ := info_parts info78
  exact ⟨i0, _, Tryz.underlying56, hi, hz0, hz1, hz2, by simp [Value.cells], by omega, by omega⟩
theorem News.two (w : World) (u v : Value) (t : TypeId) (nb : Nat) (hnb : w.heap.size = nb) (h1 : u.oneCell' = true) (h2 : v.oneCell' = true) : News (w.alloc (.cells #[u, v] t)) (some ⟨nb, 0, none⟩) 1 2 [u, v] := by
  subst hnb
  refine ⟨rfl, by simp [h1, h2], .inr ⟨_, rfl, fun j x hj => ?_⟩⟩
  match j, hj with
  | 0, hj => simp at hj; subst hj; rw [addr_add]; simp [go_sem]
  | 1, hj => simp at hj; subst hj; rw [addr_add]; simp [go_sem]
/-- one more row of a body, ahead of its ring -/
theorem OwnG.with {w w' : World} {B : Nat} {v : Value} {ys : List RV} (h : OwnG w B v ys) (hb : Below w.heap.size w w') (hB : B ≤ w.heap.size) (y : RV) (hy : w'.ownsRow w.heap.size 3 1 y.v y.s.length (ints (nats y.s))) : Sep w' B ([] ++ ⟨62, 2, v, ys.length, cellsR ys⟩ :: (ys ++ [y]).map rowR) := by
  have := Sep.append h hb hB (m := [rowR y]) (Sep.cons (Sep.nil _ _) hy (by simp))
  simpa using this
theorem OwnG.grown {w : World} {B : Nat} {v : Value} {ys : List RV} {y : RV} (h : Sep w B ([] ++ ⟨62, 2, v, ys.length + 1, cellsR ys ++ [.int .i64 (y.h : Int), y.v]⟩ :: (ys ++ [y]).map rowR)) : OwnG w B v (ys ++ [y]) := by
  unfold OwnG
  rw [cellsR_snoc, List.length_append]
  exact h
end

section
open Go Go.RowKit
set_option linter.unusedVariables false
set_option linter.unusedSimpArgs false
set_option maxRecDepth 100000

/-- a loop as it lies: its head, its body, the slice of that, and where it lies -/
structure PV where
  h : Nat
  s : List Nat
  v : Value
  up : Int
def cellsP (ys : List PV) : List Value := ys.flatMap fun y => [.int .i64 (y.h : Int), y.v, .int .i64 y.up]
def rowP (y : PV) : OR := ⟨3, 1, y.v, y.s.length, ints (nats y.s)⟩
def loopsP (ys : List PV) : List (Nat × List Nat) := ys.map fun y => (y.h, y.s)
def OwnP (w : World) (B : Nat) (v : Value) (ys : List PV) : Prop := Sep w B (⟨37, 3, v, ys.length, cellsP ys⟩ :: ys.map rowP)
theorem cellsP_at : ∀ {ys : List PV} {i : Nat} {y : PV}, ys[i]? = some y → (cellsP ys)[i * 3]? = some (.int .i64 (y.h : Int)) ∧ (cellsP ys)[i * 3 + 1]? = some y.v ∧ (cellsP ys)[i * 3 + 2]? = some (.int .i64 y.up)
  | [], i, y, h => by simp at h
  | x :: xs, 0, y, h => by
    simp at h
    subst h
    exact ⟨rfl, rfl, rfl⟩
  | x :: xs, i + 1, y, h => by
    have := cellsP_at (ys := xs) (i := i) (y := y) (by simpa using h)
    rw [show (i + 1) * 3 = i * 3 + 1 + 1 + 1 by omega]
    show ([.int .i64 (x.h : Int), x.v, .int .i64 x.up] ++ cellsP xs)[_]? = _ ∧ ([.int .i64 (x.h : Int), x.v, .int .i64 x.up] ++ cellsP xs)[_]? = _ ∧ ([.int .i64 (x.h : Int), x.v, .int .i64 x.up] ++ cellsP xs)[_]? = _
    exact ⟨by simpa using this.1, by simpa using this.2.1, by simpa using this.2.2⟩
theorem cellsP_up : ∀ {ys : List PV} {i : Nat} {y : PV} (k : Int), ys[i]? = some y → (cellsP ys).set (i * 3 + 2) (.int .i64 k) = cellsP (ys.set i { y with up := k })
  | [], i, y, k, h => by simp at h
  | x :: xs, 0, y, k, h => by
    simp at h
    subst h
    rfl
  | x :: xs, i + 1, y, k, h => by
    have := cellsP_up (ys := xs) (i := i) (y := y) k (by simpa using h)
    rw [show (i + 1) * 3 + 2 = i * 3 + 2 + 1 + 1 + 1 by omega]
    show ([.int .i64 (x.h : Int), x.v, .int .i64 x.up] ++ cellsP xs).set _ _ = [.int .i64 (x.h : Int), x.v, .int .i64 x.up] ++ cellsP (xs.set i { y with up := k })
    rw [← this]
    rfl
theorem cellsP_snoc (ys : List PV) (y : PV) : cellsP (ys ++ [y]) = cellsP ys ++ [.int .i64 (y.h : Int), y.v, .int .i64 y.up] := by simp [cellsP]
theorem loopsP_len (ys : List PV) : (loopsP ys).length = ys.length := by simp [loopsP]
theorem loopsP_snoc (ys : List PV) (y : PV) : loopsP (ys ++ [y]) = loopsP ys ++ [(y.h, y.s)] := by simp [loopsP]
theorem loopsP_at {ys : List PV} {i : Nat} {y : PV} (h : ys[i]? = some y) : (loopsP ys)[i]? = some (y.h, y.s) := by simp [loopsP, h]
theorem loopsP_set {ys : List PV} {i : Nat} {y : PV} (k : Int) (h : ys[i]? = some y) : loopsP (ys.set i { y with up := k }) = loopsP ys := by
  unfold loopsP
  rw [List.map_set]
  refine List.ext_getElem? fun j => ?_
  rw [List.getElem?_set]
  split
  · subst_vars
    split
    · simp [h]
    · rename_i hn
      simp at hn
      have := (List.getElem?_eq_some_iff.1 h).1
      omega
  · rfl
theorem OwnP.nil (w : World) (B : Nat) : OwnP w B (.slice none 0 0) [] := Sep.cons (Sep.nil _ _) (World.ownsRow_nil _ _ _ _) (by simp)
theorem OwnP.below {w w' : World} {B : Nat} {v : Value} {ys : List PV} (h : OwnP w B v ys) (hb : Below w.heap.size w w') : OwnP w' B v ys := Sep.below h hb
theorem OwnP.mono {w : World} {B B' : Nat} {v : Value} {ys : List PV} (h : OwnP w B v ys) (hB : B' ≤ B) : OwnP w B' v ys := Sep.mono h hB
theorem OwnP.slice {w : World} {B : Nat} {v : Value} {ys : List PV} (h : OwnP w B v ys) : ∃ a c, v = .slice a ys.length c := slice_of_owned (Sep.get h (x := ⟨37, 3, v, ys.length, cellsP ys⟩) (by simp))
/-- what lies at a place -/
theorem OwnP.at {w : World} {B : Nat} {a : Option Addr} {c n : Nat} {ys : List PV} (h : OwnP w B (.slice a n c) ys) {i : Nat} {y : PV} (hy : ys[i]? = some y) : ∃ b ra rc, a = some ⟨b, 0, none⟩ ∧ B ≤ b ∧ b < w.heap.size ∧ w.cell? ⟨b, i * 3, none⟩ = some (.int .i64 (y.h : Int)) ∧ w.cell? ⟨b, i * 3 + 1, none⟩ = some (.slice ra y.s.length rc) ∧ w.cell? ⟨b, i * 3 + 2, none⟩ = some (.int .i64 y.up) ∧ w.frozen? ⟨b, i * 3 + 2, none⟩ = false ∧ w.ownsRow B 3 1 (.slice ra y.s.length rc) y.s.length (ints (nats y.s)) ∧ y.v = .slice ra y.s.length rc := by
  have ho := Sep.get h (x := ⟨37, 3, .slice a n c, ys.length, cellsP ys⟩) (by simp)
  have hr := Sep.get h (x := rowP y) (List.mem_cons_of_mem _ (List.mem_map_of_mem (List.mem_of_getElem? hy)))
  have hi := (List.getElem?_eq_some_iff.1 hy).1
  obtain ⟨b, rfl⟩ : ∃ b, a = some ⟨b, 0, none⟩ := by
    rcases ho.2 with ⟨h0, h1⟩ | ⟨g', cap, cur, he, _⟩
    · simp only [] at h0 h1; omega
    · injection he with e1 _ _; exact ⟨g', e1⟩
  obtain ⟨ra, rc, hv⟩ : ∃ ra rc, y.v = .slice ra y.s.length rc := slice_of_owned hr
  have hs := Sep.size h (x := ⟨37, 3, .slice (some ⟨b, 0, none⟩) n c, ys.length, cellsP ys⟩) (by simp) (g := b) rfl
  refine ⟨b, ra, rc, rfl, hs.1, hs.2, rowT_at ho rfl (cellsP_at hy).1, ?_, rowT_at ho rfl (cellsP_at hy).2.2, rowT_frz ho rfl _, ?_, hv⟩
  · rw [← hv]
    exact rowT_at ho rfl (cellsP_at hy).2.1
  · rw [← hv]
    exact hr
theorem info72 : (Tryz.prog.info? 37).map (fun i => (i.zero, i.size, i.bytes)) = some (some (.agg #[.int .i64 0, .slice none 0 0, .int .i64 0]), 3, 40) := by kernel_rfl
theorem eltLoop : Elt 27 37 3 40 := by
  obtain ⟨i0, hi, hz0, hz1, hz2⟩ := info_parts info72
  exact ⟨i0, _, Tryz.underlying27, hi, hz0, hz1, hz2, by simp [Value.cells], by omega, by omega⟩
theorem News.three (w : World) (u v x : Value) (t : TypeId) (nb : Nat) (hnb : w.heap.size = nb) (h1 : u.oneCell' = true) (h2 : v.oneCell' = true) (h3 : x.oneCell' = true) : News (w.alloc (.cells #[u, v, x] t)) (some ⟨nb, 0, none⟩) 1 3 [u, v, x] := by
  subst hnb
  refine ⟨rfl, by simp [h1, h2, h3], .inr ⟨_, rfl, fun j y hj => ?_⟩⟩
  match j, hj with
  | 0, hj => simp at hj; subst hj; rw [addr_add]; simp [go_sem]
  | 1, hj => simp at hj; subst hj; rw [addr_add]; simp [go_sem]
  | 2, hj => simp at hj; subst hj; rw [addr_add]; simp [go_sem]
theorem OwnP.with {w w' : World} {B : Nat} {v : Value} {ys : List PV} (h : OwnP w B v ys) (hb : Below w.heap.size w w') (hB : B ≤ w.heap.size) (y : PV) (hy : w'.ownsRow w.heap.size 3 1 y.v y.s.length (ints (nats y.s))) : Sep w' B ([] ++ ⟨37, 3, v, ys.length, cellsP ys⟩ :: (ys ++ [y]).map rowP) := by
  have := Sep.append h hb hB (m := [rowP y]) (Sep.cons (Sep.nil _ _) hy (by simp))
  simpa using this
theorem OwnP.grown {w : World} {B : Nat} {v : Value} {ys : List PV} {y : PV} (h : Sep w B ([] ++ ⟨37, 3, v, ys.length + 1, cellsP ys ++ [.int .i64 (y.h : Int), y.v, .int .i64 y.up]⟩ :: (ys ++ [y]).map rowP)) : OwnP w B v (ys ++ [y]) := by
  unfold OwnP
  rw [cellsP_snoc, List.length_append]
  exact h
theorem map_rowP_set {ys : List PV} {i : Nat} {y : PV} (k : Int) (h : ys[i]? = some y) : (ys.set i { y with up := k }).map rowP = ys.map rowP := by
  rw [List.map_set]
  refine List.ext_getElem? fun j => ?_
  rw [List.getElem?_set]
  split
  · subst_vars
    split
    · simp [h, rowP]
    · rename_i hn
      simp at hn
      have := (List.getElem?_eq_some_iff.1 h).1
      omega
  · rfl
/-- another place where it lies -/
theorem OwnP.up {w : World} {B b n c : Nat} {ys : List PV} (h : OwnP w B (.slice (some ⟨b, 0, none⟩) n c) ys) (hn : n = ys.length) {i : Nat} {y : PV} (hy : ys[i]? = some y) (k : Int) : OwnP (w.setCell ⟨b, i * 3 + 2, none⟩ (.int .i64 k)) B (.slice (some ⟨b, 0, none⟩) n c) (ys.set i { y with up := k }) := by
  subst hn
  unfold OwnP at h ⊢
  rw [map_rowP_set k hy, ← cellsP_up k hy, List.length_set]
  exact Sep.store [] h (i * 3 + 2) (.int .i64 k)
end
end Go.Proofs.YtiadmmnnbnamjaaGreat
