/- Plain facts on running valid code: each step finds the height that is told, and a way out finds the height where what is left begins. -/
import Derived.Test.YthkkhinmdlmhkaaDoorWord
import Derived.Test.YthkkhinmdlmhkaaDoorVMath
import Derived.Test.YthkkhinmdlmhkaaDoorPairs
namespace Go.Proofs.YthkkhinmdlmhkaaDoor
set_option linter.unusedVariables false
set_option linter.unusedSimpArgs false

/-- the walk through code, as far as it goes -/
def vrun : List Stp → List Frm → Int → Bool → Option (List Frm × Int × Bool)
  | [], o, h, d => some (o, h, d)
  | x :: r, o, h, d => match vstp x.1 o h d with
    | .bad _ => none
    | .go o' h' d' => vrun r o' h' d'
theorem vrun_snoc (xs : List Stp) (x : Stp) (o : List Frm) (h : Int) (d : Bool) : vrun (xs ++ [x]) o h d = (vrun xs o h d).bind fun z => vrun [x] z.1 z.2.1 z.2.2 := by
  induction xs generalizing o h d with
  | nil => rfl
  | cons y r ih =>
    simp only [List.cons_append, vrun]
    cases vstp y.1 o h d with
    | bad c => rfl
    | go o' h' d' => exact ih o' h' d'
/-- what holds ahead of a place -/
def Tr (xs : List Stp) (k : Nat) (o : List Frm) (h : Int) (d : Bool) : Prop := vrun (xs.take k) [(0, false)] 0 false = some (o, h, d)
theorem walk_fine {r : List Stp} {o : List Frm} {h : Int} {d : Bool} {hs0 hs : List Int} {rs0 rs : List Bool} (hw : walkV r o h d hs0 rs0 = .fine hs rs) :
    ∀ j, j ≤ r.length → ∃ o' h' d', vrun (r.take j) o h d = some (o', h', d') ∧ hs[hs0.length + j]? = some h' ∧ (j < r.length → rs[rs0.length + j]? = some (!d')) ∧ (∀ i, i < hs0.length → hs[i]? = hs0[i]?) ∧ (∀ i, i < rs0.length → rs[i]? = rs0[i]?) ∧ (j = r.length → h' = (inn o').1) ∧ hs.length = hs0.length + r.length + 1 := by
  induction r generalizing o h d hs0 rs0 with
  | nil =>
    intro j hj
    obtain rfl : j = 0 := by simpa using hj
    simp only [walkV] at hw
    split at hw
    · rename_i he
      cases hw
      exact ⟨o, h, d, rfl, by simp, by simp, fun i hi => by rw [List.getElem?_append_left hi], fun i hi => rfl, fun _ => he, by simp⟩
    · cases hw
  | cons x r ih =>
    intro j hj
    simp only [walkV] at hw
    cases hv : vstp x.1 o h d with
    | bad c => rw [hv] at hw; cases hw
    | go o1 h1 d1 =>
      rw [hv] at hw
      simp only [] at hw
      have ih := ih hw
      have hl : (hs0 ++ [h]).length = hs0.length + 1 := by simp
      have hl2 : (rs0 ++ [!d]).length = rs0.length + 1 := by simp
      cases j with
      | zero =>
        obtain ⟨_, _, _, _, _, _, p1, p2, _, p3⟩ := ih 0 (by omega)
        refine ⟨o, h, d, rfl, ?_, fun _ => ?_, fun i hi => ?_, fun i hi => ?_, fun h0 => by simp at h0, by rw [p3, hl]; simp; omega⟩
        · rw [Nat.add_zero, p1 _ (by omega)]; simp
        · rw [Nat.add_zero, p2 _ (by omega)]; simp
        · rw [p1 i (by omega), List.getElem?_append_left hi]
        · rw [p2 i (by omega), List.getElem?_append_left hi]
      | succ j =>
        obtain ⟨o', h', d', q1, q2, q3, p1, p2, q4, p3⟩ := ih j (by simp at hj; omega)
        refine ⟨o', h', d', ?_, ?_, fun hlt => ?_, fun i hi => ?_, fun i hi => ?_, fun he => q4 (by simp at he; exact he), by rw [p3, hl]; simp; omega⟩
        · simp only [List.take_succ_cons, vrun, hv]; exact q1
        · rw [hl] at q2; rw [← q2]; congr 1; omega
        · have := q3 (by simp at hlt; omega)
          rw [hl2] at this; rw [← this]; congr 1; omega
        · rw [p1 i (by omega), List.getElem?_append_left hi]
        · rw [p2 i (by omega), List.getElem?_append_left hi]

/-- valid code: its ends, its depths, its heights, and what is come to -/
structure Vld (xs : List Stp) (e d hs : List Int) (rs : List Bool) : Prop where
  nest : nestO xs = some (e, d)
  fine : validR xs = .fine hs rs
theorem Vld.walk {xs : List Stp} {e d hs : List Int} {rs : List Bool} (v : Vld xs e d hs rs) : walkV xs [(0, false)] 0 false [] [] = .fine hs rs := by
  have h := v.fine
  unfold validR at h
  rw [v.nest] at h
  simpa using h
theorem Vld.at {xs : List Stp} {e d hs : List Int} {rs : List Bool} (v : Vld xs e d hs rs) (k : Nat) (hk : k ≤ xs.length) : ∃ o h f, Tr xs k o h f ∧ hs[k]? = some h ∧ (k < xs.length → rs[k]? = some (!f)) ∧ (k = xs.length → h = (inn o).1) := by
  obtain ⟨o, h, f, q1, q2, q3, _, _, q4, _⟩ := walk_fine v.walk k hk
  exact ⟨o, h, f, q1, by simpa using q2, by simpa using q3, q4⟩
theorem Vld.len {xs : List Stp} {e d hs : List Int} {rs : List Bool} (v : Vld xs e d hs rs) : hs.length = xs.length + 1 := by
  obtain ⟨_, _, _, _, _, _, _, _, _, p⟩ := walk_fine v.walk 0 (by omega)
  simpa using p
theorem Tr.one {xs : List Stp} {k : Nat} {o o' : List Frm} {h h' : Int} {d d' : Bool} (a : Tr xs k o h d) (b : Tr xs k o' h' d') : o = o' ∧ h = h' ∧ d = d' := by
  unfold Tr at a b
  rw [a] at b
  simpa using b
theorem Tr.step {xs : List Stp} {k : Nat} {o o' : List Frm} {h h' : Int} {d d' : Bool} {x : Stp} (a : Tr xs k o h d) (hx : xs[k]? = some x) (b : Tr xs (k + 1) o' h' d') : vstp x.1 o h d = .go o' h' d' := by
  unfold Tr at a b
  rw [List.take_add_one, hx] at b
  simp only [Option.toList_some] at b
  rw [vrun_snoc, a] at b
  simp only [Option.bind_some, vrun] at b
  cases hv : vstp x.1 o h d with
  | bad c => rw [hv] at b; cases b
  | go o1 h1 d1 => rw [hv] at b; simp at b; obtain ⟨rfl, rfl, rfl⟩ := b; rfl
theorem Tr.zero (xs : List Stp) : Tr xs 0 [(0, false)] 0 false := rfl

theorem depL_at {xs : List Stp} (n : Int) (k : Nat) (x : Stp) (hx : xs[k]? = some x) : ∃ v, (depL n xs)[k]? = some v ∧ (∀ y, xs[k + 1]? = some y → (depL n xs)[k + 1]? = some (if opensB x.1 = true then v + 1 else if x.1 = 19 then v - 1 else v)) := by
  induction xs generalizing n k with
  | nil => simp at hx
  | cons y r ih =>
    cases k with
    | zero =>
      simp at hx
      subst hx
      refine ⟨n, by simp [depL], fun z hz => ?_⟩
      cases r with
      | nil => simp at hz
      | cons z' r' => simp [depL]
    | succ k =>
      simp at hx
      obtain ⟨v, h1, h2⟩ := ih (if opensB y.1 = true then n + 1 else if y.1 = 19 then n - 1 else n) k hx
      exact ⟨v, by simpa [depL] using h1, fun z hz => by have := h2 z (by simpa using hz); simpa [depL] using this⟩
theorem depth_step {xs : List Stp} {e d : List Int} (h : nestO xs = some (e, d)) {k : Nat} {x : Stp} (hx : xs[k]? = some x) : ∃ v : Nat, d[k]? = some (v : Int) ∧ (x.1 = 19 → 1 ≤ v) ∧ (∀ y, xs[k + 1]? = some y → d[k + 1]? = some ((depO x.1 v : Nat) : Int)) := by
  have hk := (List.getElem?_eq_some_iff.1 hx).1
  obtain ⟨o, h0, hok, h1, h2, h3⟩ := openAt h k hk
  have hd := nestO_depths h
  obtain ⟨v, hv, hn⟩ := depL_at 0 k x hx
  rw [← hd] at hv hn
  rw [h0] at hv
  obtain rfl : (o.length : Int) = v := by simpa using hv
  have h19 : x.1 = 19 → 1 ≤ o.length := by
    intro h19
    rcases Nat.eq_zero_or_pos o.length with hz | hz
    · exfalso
      have hr := nestO_run h
      have hsp : xs = xs.take k ++ x :: xs.drop (k + 1) := by
        have := List.drop_eq_getElem_cons hk
        rw [(List.getElem?_eq_some_iff.1 hx).2] at this
        rw [← this, List.take_append_drop]
      rw [hsp] at hr
      obtain ⟨o1, e1, d1, r1, r2⟩ := runN_append hr
      cases hs : stp x o1 e1 with
      | none => rw [runN_snoc_none hs] at r2; cases r2
      | some p =>
        obtain ⟨o2, e2⟩ := p
        have hw := stp_went hs
        have hdd : d[k]? = some (o1.length : Int) := by
          rw [runN_snoc_some hs] at r2
          have l1 := runN_length r1
          have := runN_depths r2
          rw [this]
          have lk : d1.length = k := by have := l1.2; simp at this; omega
          rw [List.append_assoc, List.getElem?_append_right (by omega), lk]
          simp
        rw [hdd] at h0
        have : o1.length = 0 := by simp at h0; omega
        obtain rfl : o1 = [] := List.eq_nil_of_length_eq_zero this
        cases hw with
        | push ho _ => simp [opensB] at ho; omega
        | turn s ho h18 hl => omega
        | shut p s t ho h19 hl => simp at hl
        | plain ho h18 h19' => exact h19' h19
    · exact hz
  refine ⟨o.length, h0, h19, fun y hy => ?_⟩
  rw [hn y hy]
  congr 1
  unfold depO
  split
  · simp
  · split
    · rename_i h; have := h19 h; omega
    · rfl

/-- what holds of the walk ahead of each place -/
structure Good (o : List Frm) (h : Int) (d : Bool) (n : Nat) : Prop where
  ok : OkV o h
  len : o.length = n + 1
  mono : o.Pairwise (fun a b => b.2 = false → a.2 = false)
  live : d = false → (inn o).2 = false
theorem pair_inn {o : List Frm} (hp : o.Pairwise (fun a b => b.2 = false → a.2 = false)) (h0 : 0 < o.length) (hi : (inn o).2 = false) : ∀ f ∈ o, f.2 = false := by
  intro f hf
  have hs := inn_split h0
  rw [hs] at hp hf
  have h2 := (List.pairwise_append.1 hp).2.2
  rcases List.mem_append.1 hf with hf | hf
  · exact h2 f hf (inn o) (by simp) hi
  · simp at hf; subst hf; exact hi
theorem vgood_step {o o' : List Frm} {h h' : Int} {d d' : Bool} {n : Nat} {op : Int} (g : Good o h d n) (h19 : op = 19 → 1 ≤ n) (hs : vstp op o h d = .go o' h' d') : Good o' h' d' (depO op n) := by
  obtain ⟨k1, k2⟩ := vstp_ok g.ok (fun e => by have := h19 e; have := g.len; omega) hs
  have hlen : o'.length = depO op n + 1 := by
    rw [k2, g.len]
    unfold depO
    split
    · rfl
    · split
      · rename_i h; have := h19 h; omega
      · rfl
  have h0 := g.ok.pos
  unfold vstp at hs
  split at hs
  · cases hs
  · split at hs
    · cases hs
    · unfold vlead at hs
      split at hs
      · cases hs; exact ⟨k1, hlen, g.mono, fun e => by cases e⟩
      · split at hs
        · cases hs
          refine ⟨k1, hlen, List.pairwise_append.2 ⟨g.mono, List.pairwise_singleton _ _, fun a ha b hb => ?_⟩, fun e => by rw [inn_snoc]; exact e⟩
          simp at hb; subst hb
          intro e
          exact pair_inn g.mono h0 (g.live e) a ha
        · split at hs
          · split at hs
            · cases hs; exact ⟨k1, hlen, g.mono, fun e => e⟩
            · cases hs
          · split at hs
            · split at hs
              · cases hs
                have hm : o.dropLast.Pairwise (fun a b => b.2 = false → a.2 = false) := g.mono.sublist (List.dropLast_sublist _)
                refine ⟨k1, hlen, hm, fun e => ?_⟩
                have hpos : 0 < o.dropLast.length := k1.pos
                exact pair_inn g.mono h0 e _ ((List.dropLast_sublist _).mem (inn_mem hpos))
              · cases hs
            · cases hs; exact ⟨k1, hlen, g.mono, g.live⟩
theorem Vld.good {xs : List Stp} {e d hs : List Int} {rs : List Bool} (v : Vld xs e d hs rs) (k : Nat) (hk : k ≤ xs.length) {o : List Frm} {h : Int} {f : Bool} (ht : Tr xs k o h f) : ∃ n : Nat, Good o h f n ∧ (k < xs.length → d[k]? = some (n : Int)) := by
  induction k generalizing o h f with
  | zero =>
    obtain ⟨rfl, rfl, rfl⟩ := ht.one (Tr.zero xs)
    refine ⟨0, ⟨OkV.start, rfl, List.pairwise_singleton _ _, fun _ => rfl⟩, fun hlt => ?_⟩
    rw [nestO_depths v.nest]
    cases xs with
    | nil => simp at hlt
    | cons x r => simp [depL]
  | succ k ih =>
    obtain ⟨o1, h1, f1, t1, _⟩ := v.at k (by omega)
    obtain ⟨n, g, hd⟩ := ih (by omega) t1
    obtain ⟨x, hx⟩ : ∃ x, xs[k]? = some x := ⟨_, List.getElem?_eq_getElem (by omega)⟩
    obtain ⟨m, m1, m2, m3⟩ := depth_step v.nest hx
    rw [hd (by omega)] at m1
    obtain rfl : n = m := by have := Option.some.inj m1; omega
    refine ⟨depO x.1 n, vgood_step g m2 (t1.step hx ht), fun hlt => ?_⟩
    exact m3 _ (List.getElem?_eq_getElem hlt)

theorem vstp_take {o o' : List Frm} {h h' : Int} {d d' : Bool} {op : Int} {m : Nat} (hs : vstp op o h d = .go o' h' d') (hm : m ≤ o.length) (hm' : m ≤ o'.length) : o'.take m = o.take m := by
  unfold vstp at hs
  split at hs
  · cases hs
  · split at hs
    · cases hs
    · unfold vlead at hs
      split at hs
      · cases hs; rfl
      · split at hs
        · cases hs; exact List.take_append_of_le_length hm
        · split at hs
          · split at hs
            · cases hs; rfl
            · cases hs
          · split at hs
            · split at hs
              · cases hs
                rw [List.dropLast_eq_take, List.take_take]
                simp at hm'
                rw [Nat.min_eq_left hm']
              · cases hs
            · cases hs; rfl
/-- what is open stays open as long as it is that deep -/
theorem Vld.keep {xs : List Stp} {e d hs : List Int} {rs : List Bool} (v : Vld xs e d hs rs) {a : Nat} {oa : List Frm} {ha : Int} {fa : Bool} (ta : Tr xs a oa ha fa) (m : Nat) (hm : m ≤ oa.length) :
    ∀ b, a ≤ b → b ≤ xs.length → (∀ i, a < i → i ≤ b → ∀ o h f, Tr xs i o h f → m ≤ o.length) → ∀ ob hb fb, Tr xs b ob hb fb → ob.take m = oa.take m := by
  intro b
  induction b with
  | zero =>
    intro hab _ _ ob hb fb tb
    obtain rfl : a = 0 := by omega
    obtain ⟨rfl, _, _⟩ := tb.one ta
    rfl
  | succ b ih =>
    intro hab hbl hall ob hb fb tb
    by_cases he : a = b + 1
    · subst he
      obtain ⟨rfl, _, _⟩ := tb.one ta
      rfl
    · obtain ⟨o1, h1, f1, t1, _⟩ := v.at b (by omega)
      obtain ⟨x, hx⟩ : ∃ x, xs[b]? = some x := ⟨_, List.getElem?_eq_getElem (by omega)⟩
      have h1' := ih (by omega) (by omega) (fun i hi hi' => hall i hi (by omega)) o1 h1 f1 t1
      have hm1 : m ≤ o1.length := by
        by_cases hab' : a = b
        · subst hab'; obtain ⟨rfl, _, _⟩ := t1.one ta; exact hm
        · exact hall b (by omega) (by omega) _ _ _ t1
      rw [vstp_take (t1.step hx tb) hm1 (hall (b + 1) (by omega) (by omega) _ _ _ tb), h1']
theorem Vld.lenAt {xs : List Stp} {e d hs : List Int} {rs : List Bool} (v : Vld xs e d hs rs) {k n : Nat} (hk : k < xs.length) (hd : d[k]? = some (n : Int)) {o : List Frm} {h : Int} {f : Bool} (t : Tr xs k o h f) : o.length = n + 1 := by
  obtain ⟨m, g, hm⟩ := v.good k (by omega) t
  have := hm hk
  rw [hd] at this
  have := Option.some.inj this
  rw [g.len]; omega

/-- how what opens lies: its end, and how deep all within it is -/
theorem span {xs : List Stp} {e d : List Int} (h : nestO xs = some (e, d)) {s : Nat} {y : Stp} (hy : xs[s]? = some y) (ho : opensB y.1 = true) :
    ∃ (p n : Nat) (z : Stp), e[s]? = some (p : Int) ∧ s < p ∧ e[p]? = some (s : Int) ∧ xs[p]? = some z ∧ z.1 = 19 ∧ d[s]? = some (n : Int) ∧ d[p]? = some ((n + 1 : Nat) : Int) ∧ ∀ j, s < j → j ≤ p → ∃ m : Nat, d[j]? = some (m : Int) ∧ n + 1 ≤ m := by
  obtain ⟨p, v, z, h1, h2, h3, h4, h5, h6, h7⟩ := (pairs h).1 s y hy ho
  have hp := (List.getElem?_eq_some_iff.1 h6).1
  obtain ⟨o, g0, gk, g1, g2, g3⟩ := openAt h p hp
  rcases g3 s y h2 hy ho with ⟨q, hq, hqs⟩ | ⟨w, hw, hlt⟩
  · obtain ⟨i, hi, hie⟩ := List.mem_iff_getElem.1 hq
    have hqi : o[i]? = some q := by rw [← hie]; exact List.getElem?_eq_getElem hi
    obtain ⟨k1, k2⟩ := g1 i q hqi
    rw [hqs] at k1 k2
    have hv : v = (i : Int) := by rw [h4] at k1; exact Option.some.inj k1
    subst hv
    refine ⟨p, i, z, h1, h2, h3, h6, h7, h4, by rw [h5]; simp, fun j hj hjp => ?_⟩
    by_cases he : j = p
    · subst he; exact ⟨i + 1, by rw [h5]; simp, Nat.le_refl _⟩
    · obtain ⟨w, hw, hlt⟩ := k2 j hj (by omega)
      have hjl : j < xs.length := by omega
      obtain ⟨o2, q0, _⟩ := openAt h j hjl
      rw [q0] at hw
      have := Option.some.inj hw
      exact ⟨o2.length, q0, by omega⟩
  · rw [h1] at hw
    have := Option.some.inj hw
    omega

/-- what the walk holds behind what opens, and behind its end -/
theorem Vld.frame {xs : List Stp} {e d hs : List Int} {rs : List Bool} (v : Vld xs e d hs rs) {s : Nat} {y : Stp} (hy : xs[s]? = some y) (ho : opensB y.1 = true) {os : List Frm} {hh : Int} {fs : Bool} (ts : Tr xs s os hh fs) :
    ∃ (p : Nat) (b : Int), e[s]? = some (p : Int) ∧ s < p ∧ p < xs.length ∧ e[p]? = some (s : Int) ∧ (∃ z, xs[p]? = some z ∧ z.1 = 19) ∧ b = takeH y.1 os hh + onN y.1 ∧ Tr xs (s + 1) (os ++ [(b, fs)]) b fs ∧ Tr xs (p + 1) os b fs ∧
      (∀ j, s < j → j ≤ p → ∀ o h f, Tr xs j o h f → o.take (os.length + 1) = os ++ [(b, fs)]) ∧ (∀ j, s < j → j < p → ∀ x, xs[j]? = some x → x.1 = 18 → e[j]? = some (p : Int) → Tr xs (j + 1) (os ++ [(b, fs)]) b fs) := by
  obtain ⟨p, n, z, h1, h2, h3, h4, h5, h6, h7, h8⟩ := span v.nest hy ho
  have hp := (List.getElem?_eq_some_iff.1 h4).1
  have hsl := (List.getElem?_eq_some_iff.1 hy).1
  have hlen := v.lenAt hsl h6 ts
  obtain ⟨o1, b1, f1, t1, _⟩ := v.at (s + 1) (by omega)
  have hst := ts.step hy t1
  have hst' := hst
  have ho' : 15 ≤ y.1 ∧ y.1 ≤ 17 := by simpa [opensB] using ho
  unfold vstp at hst
  split at hst
  · cases hst
  split at hst
  · cases hst
  unfold vlead at hst
  rw [if_neg (by omega), if_pos ho] at hst
  cases hst
  have hkeep : ∀ j, s < j → j ≤ p → ∀ o h f, Tr xs j o h f → o.take (os.length + 1) = os ++ [(takeH y.1 os hh + onN y.1, fs)] := by
    intro j hj hjp o h f t
    have := v.keep t1 (os.length + 1) (by simp) j (by omega) (by omega) (fun i hi hi' o' h' f' t' => by
      obtain ⟨m, hm, hle⟩ := h8 i (by omega) (by omega)
      have := v.lenAt (by omega) hm t'
      omega) o h f t
    rw [this]
    exact List.take_of_length_le (by simp)
  have hexact : ∀ j, s < j → j ≤ p → d[j]? = some ((n + 1 : Nat) : Int) → ∀ o h f, Tr xs j o h f → o = os ++ [(takeH y.1 os hh + onN y.1, fs)] := by
    intro j hj hjp hdj o h f t
    have h1 := hkeep j hj hjp o h f t
    have h2 := v.lenAt (by omega) hdj t
    rw [List.take_of_length_le (by omega)] at h1
    exact h1
  refine ⟨p, _, h1, h2, hp, h3, ⟨z, h4, h5⟩, rfl, t1, ?_, hkeep, ?_⟩
  · obtain ⟨op, hp', fp, tp, _⟩ := v.at p (by omega)
    obtain rfl := hexact p h2 (Nat.le_refl _) h7 _ _ _ tp
    obtain ⟨o2, b2, f2, t2, _⟩ := v.at (p + 1) (by omega)
    have hst := tp.step h4 t2
    unfold vstp at hst
    split at hst
    · cases hst
    split at hst
    · cases hst
    unfold vlead at hst
    have e19 : onN z.1 = 0 := by rw [h5]; decide
    rw [if_neg (by omega), if_neg (by rw [h5]; decide), if_neg (by omega), if_pos h5, inn_snoc] at hst
    split at hst
    · rename_i he
      cases hst
      simp only [] at he
      rw [he] at t2
      simpa using t2
    · cases hst
  · intro j hj hjp x hx h18 hej
    obtain ⟨k, i, w, z1, z2, q1, q2, q3, q4, q5, q6, q7, q8⟩ := (pairs v.nest).2 j x hx h18
    rw [hej] at q1
    obtain rfl : p = k := by have := Option.some.inj q1; omega
    have hdj : d[j]? = some ((n + 1 : Nat) : Int) := by rw [q7, ← q8, h7]
    obtain ⟨op, hp', fp, tp, _⟩ := v.at j (by omega)
    obtain rfl := hexact j hj (by omega) hdj _ _ _ tp
    obtain ⟨o2, b2, f2, t2, _⟩ := v.at (j + 1) (by omega)
    have hst := tp.step hx t2
    unfold vstp at hst
    split at hst
    · cases hst
    split at hst
    · cases hst
    unfold vlead at hst
    rw [if_neg (by omega), if_neg (by rw [h18]; decide), if_pos h18, inn_snoc] at hst
    split at hst
    · rename_i he
      cases hst
      simp only [] at he
      rw [he] at t2
      exact t2
    · cases hst
end Go.Proofs.YthkkhinmdlmhkaaDoor
