/- Plain facts on the order of a graph: who dominates comes first, and of a reducible graph only back edges go back. -/
import Derived.Test.YtiadmmnnbnamjaaNestFx8
namespace Go.Proofs.Ytiadmmnnbnamjaa
set_option linter.unusedVariables false

theorem dfs_suf (g : List (List Nat)) (n : Nat) : ∀ (k : Nat) (s o : List Nat), o <:+ (dfs g n k s o).2 := by
  induction n with
  | zero => intro k s o; exact List.suffix_refl _
  | succ n ih =>
    intro k s o
    rw [dfs_succ]
    have go : ∀ (r : List Nat) (q : List Nat × List Nat), q.2 <:+ (dfsL g n r q).2 := by
      intro r
      induction r with
      | nil => intro q; exact List.suffix_refl _
      | cons x r ihr =>
        intro q
        have e : dfsL g n (x :: r) q = dfsL g n r (if x ∈ q.1 then q else dfs g n x q.1 q.2) := rfl
        rw [e]
        refine List.IsSuffix.trans ?_ (ihr _)
        split
        · exact List.suffix_refl _
        · exact ih x q.1 q.2
    exact (go (g.getD k []) (putL s k, o)).trans (List.suffix_cons _ _)
theorem dfsL_suf (g : List (List Nat)) (n : Nat) : ∀ (r : List Nat) (q : List Nat × List Nat), q.2 <:+ (dfsL g n r q).2 := by
  intro r
  induction r with
  | nil => intro q; exact List.suffix_refl _
  | cons x r ihr =>
    intro q
    have e : dfsL g n (x :: r) q = dfsL g n r (if x ∈ q.1 then q else dfs g n x q.1 q.2) := rfl
    rw [e]
    refine List.IsSuffix.trans ?_ (ihr _)
    split
    · exact List.suffix_refl _
    · exact dfs_suf g n x q.1 q.2
/-- each node but the first one has one ahead that leads to it -/
def ParIn (g : List (List Nat)) (k : Nat) (new : List Nat) : Prop := ∀ pre u post, new = pre ++ u :: post → (pre = [] ∧ u = k) ∨ ∃ a ∈ pre, u ∈ g.getD a []
theorem dfs_par (g : List (List Nat)) (n : Nat) : ∀ (k : Nat) (s o : List Nat), ∃ new, (dfs g n k s o).2 = new ++ o ∧ ParIn g k new := by
  induction n with
  | zero => intro k s o; exact ⟨[], rfl, fun pre u post h => by simp at h⟩
  | succ n ih =>
    intro k s o
    rw [dfs_succ]
    have go : ∀ (r : List Nat) (q : List Nat × List Nat), (∀ x ∈ r, x ∈ g.getD k []) → ∃ new, (dfsL g n r q).2 = new ++ q.2 ∧ ∀ pre u post, new = pre ++ u :: post → u ∈ g.getD k [] ∨ ∃ a ∈ pre, u ∈ g.getD a [] := by
      intro r
      induction r with
      | nil => intro q _; exact ⟨[], rfl, fun pre u post h => by simp at h⟩
      | cons x r ihr =>
        intro q hr
        have e : dfsL g n (x :: r) q = dfsL g n r (if x ∈ q.1 then q else dfs g n x q.1 q.2) := rfl
        rw [e]
        obtain ⟨nr, h1, h2⟩ := ihr (if x ∈ q.1 then q else dfs g n x q.1 q.2) (fun y hy => hr y (List.mem_cons_of_mem _ hy))
        obtain ⟨nx, h3, h4⟩ : ∃ nx, (if x ∈ q.1 then q else dfs g n x q.1 q.2).2 = nx ++ q.2 ∧ ParIn g x nx := by
          split
          · exact ⟨[], rfl, fun pre u post h => by simp at h⟩
          · exact ih x q.1 q.2
        refine ⟨nr ++ nx, by rw [h1, h3, List.append_assoc], fun pre u post he => ?_⟩
        have inx : ∀ a', pre = nr ++ a' → nx = a' ++ u :: post → u ∈ g.getD k [] ∨ ∃ a ∈ pre, u ∈ g.getD a [] := fun a' e1 e2 => by
          rcases h4 a' u post e2 with ⟨_, e3⟩ | ⟨b, hb, hu⟩
          · left; rw [e3]; exact hr x (by simp)
          · exact .inr ⟨b, by rw [e1]; exact List.mem_append_right _ hb, hu⟩
        rcases List.append_eq_append_iff.1 he with ⟨a', e1, e2⟩ | ⟨c', e1, e2⟩
        · exact inx a' e1 e2
        · cases c' with
          | nil => exact inx [] (by simpa using e1.symm) (by simpa using e2.symm)
          | cons y c' =>
            simp only [List.cons_append, List.cons.injEq] at e2
            obtain ⟨rfl, e3⟩ := e2
            exact h2 pre u c' e1
    obtain ⟨new, h1, h2⟩ := go (g.getD k []) (putL s k, o) (fun x hx => hx)
    refine ⟨k :: new, by rw [h1]; rfl, fun pre u post he => ?_⟩
    cases pre with
    | nil => simp only [List.nil_append, List.cons.injEq] at he; exact .inl ⟨rfl, he.1.symm⟩
    | cons y pre =>
      simp only [List.cons_append, List.cons.injEq] at he
      obtain ⟨rfl, e2⟩ := he
      rcases h2 pre u post e2 with h | ⟨a, ha, hu⟩
      · exact .inr ⟨k, by simp, h⟩
      · exact .inr ⟨a, List.mem_cons_of_mem _ ha, hu⟩
theorem order_par (g : List (List Nat)) : ParIn g 0 (order7 g) := by
  obtain ⟨new, h1, h2⟩ := dfs_par g g.length 0 [] []
  unfold order7
  rw [h1, List.append_nil]
  exact h2
theorem order_nodup {g : List (List Nat)} (G : Gr g) : (order7 g).Nodup := by
  have := (dfs_tour G g.length 0 [] ([], []) (tour_start g) G.pos (by simp) (.start (by omega)) (by simp)).1
  exact this.once
/-- a node parts the order -/
theorem part_at {F : List Nat} {k : Nat} (h : k ∈ F) : ∃ pre post, F = pre ++ k :: post ∧ pre.length = F.idxOf k ∧ k ∉ pre := by
  induction F with
  | nil => simp at h
  | cons y r ih =>
    by_cases e : y = k
    · subst e; exact ⟨[], r, rfl, by simp, by simp⟩
    · have hk : k ∈ r := by
        rcases List.mem_cons.1 h with e2 | e2
        · exact absurd e2.symm e
        · exact e2
      obtain ⟨pre, post, h1, h2, h3⟩ := ih hk
      refine ⟨y :: pre, post, by rw [h1]; rfl, ?_, by simp [h3]; exact fun e2 => e e2.symm⟩
      rw [List.idxOf_cons, h1]
      have : (y == k) = false := by simpa using e
      rw [this, ← h1, ← h2]
      simp
theorem idx_ahead {pre post : List Nat} {k a : Nat} (ha : a ∈ pre) : (pre ++ k :: post).idxOf a < pre.length := by
  rw [List.idxOf_append, if_pos ha]
  exact List.idxOf_lt_length_of_mem ha
/-- who dominates comes first -/
theorem dom_first {g : List (List Nat)} (G : Gr g) : ∀ (m k x : Nat), (order7 g).idxOf k = m → Dom g x k → (order7 g).idxOf x ≤ (order7 g).idxOf k := by
  intro m
  induction m using Nat.strongRecOn with
  | ind m ih =>
    intro k x hm hd
    by_cases e : x = k
    · subst e; exact Nat.le_refl _
    · obtain ⟨pre, post, h1, h2, h3⟩ := part_at ((order_come G k).2 hd.1)
      rcases order_par g pre k post h1 with ⟨_, e2⟩ | ⟨a, ha, hk⟩
      · subst e2
        exact absurd (Dom.zero hd) e
      · have hia : (order7 g).idxOf a < (order7 g).idxOf k := by
          rw [← h2]
          conv => lhs; rw [h1]
          exact idx_ahead ha
        have hca : Come g a := (order_come G a).1 (by rw [h1]; exact List.mem_append_left _ ha)
        obtain ⟨l, hl⟩ : ∃ l, g[a]? = some l := ⟨_, List.getElem?_eq_getElem (RchW.lt G hca)⟩
        have hkl : k ∈ l := by rw [List.getD_eq_getElem?_getD, hl] at hk; exact hk
        have := ih _ (by omega) a x rfl (hd.up ⟨hca, l, hl, hkl⟩ e)
        omega
/-- edges of the search: they go forward -/
def TE (g : List (List Nat)) (F : List Nat) (a b : Nat) : Prop := (∃ l, g[a]? = some l ∧ b ∈ l) ∧ F.idxOf a < F.idxOf b
inductive WayT (g : List (List Nat)) (F : List Nat) : Nat → Nat → Prop
  | refl (u : Nat) : WayT g F u u
  | step {u v x : Nat} : WayT g F u v → TE g F v x → WayT g F u x
theorem WayT.head {g : List (List Nat)} {F : List Nat} {u x : Nat} (h : WayT g F u x) : u = x ∨ ∃ y, TE g F u y ∧ WayT g F y x := by
  induction h with
  | refl => exact .inl rfl
  | @step v x h1 h2 ih =>
    rcases ih with rfl | ⟨y, hy, hw⟩
    · exact .inr ⟨x, h2, .refl x⟩
    · exact .inr ⟨y, hy, .step hw h2⟩
def FwdT (g : List (List Nat)) (F o : List Nat) : Prop := ∀ u post, (u :: post) <:+ o → ∀ l, g[u]? = some l → ∀ v ∈ l, v ∈ post ∨ WayT g F v u
theorem dfs_fwdT {g : List (List Nat)} (G : Gr g) {F : List Nat} (hF : F.Nodup) (n : Nat) : ∀ (k : Nat) (A : List Nat) (p : List Nat × List Nat), Tour g A p → FwdT g F p.2 → (∀ a ∈ A, WayT g F a k) → k < g.length → k ∉ p.1 → Come g k → g.length ≤ p.1.length + n → (dfs g n k p.1 p.2).2 <:+ F → FwdT g F (dfs g n k p.1 p.2).2 := by
  induction n with
  | zero =>
    intro k A p h _ _ hk hn _ hl
    have := h.seen.room hk hn
    omega
  | succ n ih =>
    intro k A p h hf hA hk hn hc hl hsuf
    obtain ⟨l, hgl⟩ : ∃ l, g[k]? = some l := ⟨_, List.getElem?_eq_getElem hk⟩
    rw [dfs_succ, getD_at hgl] at hsuf ⊢
    have hb := G.below k l hgl
    have fwd : ∀ x ∈ (dfsL g n l (putL p.1 k, p.2)).2, F.idxOf k < F.idxOf x := by
      intro x hx
      obtain ⟨pre, he⟩ := hsuf
      have hnd := hF
      rw [← he] at hnd ⊢
      have hd := List.nodup_append.1 hnd
      have hk1 : k ∉ pre := fun hm => hd.2.2 k hm k (by simp) rfl
      have hx1 : x ∉ pre := fun hm => hd.2.2 x hm x (by simp [hx]) rfl
      have hkx : k ≠ x := fun e => by subst e; exact (List.nodup_cons.1 hd.2.1).1 hx
      rw [List.idxOf_append, if_neg hk1, List.idxOf_append, if_neg hx1, List.idxOf_cons_self, List.idxOf_cons]
      have : (k == x) = false := by simpa using hkx
      rw [this]
      simp
    have hp : Tour g (k :: A) (putL p.1 k, p.2) := by
      refine ⟨h.seen.put hk, fun x => ?_, fun x hx => ?_, fun x hx l' hl' y hy => ?_, h.once, fun x hx hxa => ?_⟩
      · show x ∈ putL p.1 k ↔ _
        rw [putL_mem, h.parts x, List.mem_cons]
        exact or_assoc.symm
      · rcases (putL_mem p.1 k x).1 hx with rfl | hx
        · exact hc
        · exact h.come x hx
      · exact (putL_mem p.1 k y).2 (.inr (h.closed x hx l' hl' y hy))
      · rcases List.mem_cons.1 hxa with rfl | hxa
        · exact hn ((h.parts x).2 (.inr hx))
        · exact h.apart x hx hxa
    have go : ∀ (r : List Nat) (q : List Nat × List Nat), (∀ x ∈ r, x ∈ l) → Tour g (k :: A) q → FwdT g F q.2 → g.length ≤ q.1.length + n → (dfsL g n r q).2 <:+ (dfsL g n l (putL p.1 k, p.2)).2 → Tour g (k :: A) (dfsL g n r q) ∧ FwdT g F (dfsL g n r q).2 ∧ (∀ x ∈ q.1, x ∈ (dfsL g n r q).1) ∧ ∀ x ∈ r, x ∈ (dfsL g n r q).1 := by
      intro r
      induction r with
      | nil => intro q _ hq hqf _ _; exact ⟨hq, hqf, fun x hx => hx, fun x hx => by cases hx⟩
      | cons x r ihr =>
        intro q hr hq hqf hlq hsq
        have e : dfsL g n (x :: r) q = dfsL g n r (if x ∈ q.1 then q else dfs g n x q.1 q.2) := rfl
        rw [e] at hsq ⊢
        have hxl : x < g.length := hb x (hr x (by simp))
        have hsq' : (if x ∈ q.1 then q else dfs g n x q.1 q.2).2 <:+ (dfsL g n l (putL p.1 k, p.2)).2 := (dfsL_suf g n r _).trans hsq
        have step : Tour g (k :: A) (if x ∈ q.1 then q else dfs g n x q.1 q.2) ∧ FwdT g F (if x ∈ q.1 then q else dfs g n x q.1 q.2).2 ∧ x ∈ (if x ∈ q.1 then q else dfs g n x q.1 q.2).1 ∧ Kept7 g.length q (if x ∈ q.1 then q else dfs g n x q.1 q.2) := by
          by_cases hm : x ∈ q.1
          · rw [if_pos hm]; exact ⟨hq, hqf, hm, .refl hq.seen⟩
          · rw [if_neg hm] at hsq' ⊢
            have hcx : Come g x := .step hc hgl (hr x (by simp)) (by omega)
            have ht := dfs_tour G n x (k :: A) q hq hxl hm hcx hlq
            have hx2 : x ∈ (dfs g n x q.1 q.2).2 := by
              rcases (ht.1.parts x).1 ht.2 with h1 | h1
              · exact absurd ((hq.parts x).2 (.inl h1)) hm
              · exact h1
            have hte : TE g F k x := ⟨⟨l, hgl, hr x (by simp)⟩, fwd x (hsq'.subset hx2)⟩
            have hA' : ∀ a ∈ k :: A, WayT g F a x := fun a ha => by
              rcases List.mem_cons.1 ha with rfl | ha
              · exact .step (.refl _) hte
              · exact .step (hA a ha) hte
            have h1 := ih x (k :: A) q hq hqf hA' hxl hm hcx hlq ((hsq'.trans (List.suffix_cons _ _)).trans hsuf)
            exact ⟨ht.1, h1, ht.2, dfs_kept G n x q.1 q.2 hq.seen hxl hm⟩
        obtain ⟨s1, s0, s2, s3⟩ := step
        obtain ⟨t1, t0, t2, t3⟩ := ihr _ (fun y hy => hr y (List.mem_cons_of_mem _ hy)) s1 s0 (by have := s3.2.2.1; omega) hsq
        refine ⟨t1, t0, fun y hy => t2 y (s3.2.1 y hy), fun y hy => ?_⟩
        rcases List.mem_cons.1 hy with rfl | hy
        · exact t2 _ s2
        · exact t3 y hy
    obtain ⟨t1, t0, t2, t3⟩ := go l (putL p.1 k, p.2) (fun x hx => hx) hp hf (by show _ ≤ (putL p.1 k).length + n; rw [putL_len' p.1 k hn]; omega) (List.suffix_refl _)
    intro u post hs lu hlu v hv
    rcases List.suffix_cons_iff.1 hs with e | hs
    · injection e with e1 e2
      subst e1 e2
      rw [hgl] at hlu
      obtain rfl := Option.some.inj hlu
      rcases (t1.parts v).1 (t3 v hv) with h1 | h1
      · rcases List.mem_cons.1 h1 with rfl | h1
        · exact .inr (.refl _)
        · exact .inr (hA v h1)
      · exact .inl h1
    · exact t0 u post hs lu hlu v hv
theorem order_fwdT {g : List (List Nat)} (G : Gr g) : FwdT g (order7 g) (order7 g) :=
  dfs_fwdT G (order_nodup G) g.length 0 [] ([], []) (tour_start g) (by intro u post hs; simp at hs) (by simp) G.pos (by simp) (.start (by omega)) (by simp) (List.suffix_refl _)
/-- of a reducible graph an edge that does not go forward is a back edge -/
theorem retreat_back {g D : List (List Nat)} (G : Gr g) (hD : IsDoms g D) (hr : ¬ Cyc2 g D) {u v : Nat} (hl : Lead g u v) (hi : (order7 g).idxOf v ≤ (order7 g).idxOf u) : Dom g v u := by
  refine Classical.byContradiction fun hnd => hr ?_
  have hnb : isB D (u, v) = false := by
    cases hb : isB D (u, v) with
    | false => rfl
    | true => exact absurd ((isB_dom hD u v).1 hb).2 hnd
  obtain ⟨hcu, lu, hlu, hv⟩ := hl
  obtain ⟨pre, post, h1, h2, h3⟩ := part_at ((order_come G u).2 hcu)
  have hway : WayT g (order7 g) v u := by
    rcases order_fwdT G u post ⟨pre, h1.symm⟩ lu hlu v hv with h | h
    · exfalso
      have hnd2 := order_nodup G
      rw [h1] at hnd2
      have hd := List.nodup_append.1 hnd2
      have hv1 : v ∉ pre := fun hm => hd.2.2 v hm v (by simp [h]) rfl
      have huv : u ≠ v := fun e => by subst e; exact (List.nodup_cons.1 hd.2.1).1 h
      have : (order7 g).idxOf u < (order7 g).idxOf v := by
        rw [← h2]
        conv => rhs; rw [h1]
        rw [List.idxOf_append, if_neg hv1, List.idxOf_cons]
        have : (u == v) = false := by simpa using huv
        rw [this]
        simp
      omega
    · exact h
  have nb : ∀ a b, TE g (order7 g) a b → isB D (a, b) = false := fun a b ht => by
    cases hb : isB D (a, b) with
    | false => rfl
    | true =>
      have hd := ((isB_dom hD a b).1 hb).2
      have := dom_first G _ a b rfl hd
      have := ht.2
      omega
  have hcv : Come g v := .step hcu hlu hv (by omega)
  have come : ∀ x, WayT g (order7 g) v x → Come g x := fun x hx => by
    induction hx with
    | refl => exact hcv
    | step _ ht ih =>
      obtain ⟨⟨l, hl, hx⟩, _⟩ := ht
      exact .step ih hl hx (by omega)
  refine ⟨fun x => WayT g (order7 g) v x ∧ WayT g (order7 g) x u, ⟨v, .refl v, hway⟩, fun x hx => come x hx.1, fun x hx => ?_⟩
  rcases hx.2.head with e | ⟨y, hy, hw⟩
  · subst e
    exact ⟨lu, v, hlu, hv, hnb, .refl v, hway⟩
  · obtain ⟨l, hl, hyl⟩ := hy.1
    exact ⟨l, y, hl, hyl, nb x y hy, .step hx.1 hy, hw⟩
end Go.Proofs.Ytiadmmnnbnamjaa
