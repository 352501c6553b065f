/- Sets: rising lists that are searched, and grow by one number put to its place. -/
import Derived.Test.YtiaiaejijicddaaK1
import Derived.Test.YtiaiaejijicddaaShelf
namespace Go.Proofs.Ytiaiaejijicddaa
open Go.RowKit
set_option linter.unusedVariables false
set_option linter.unusedSimpArgs false
set_option maxRecDepth 100000

/-- how many are less -/
def posL (s : List Nat) (k : Nat) : Nat := s.countP (· < k)
theorem posL_le (s : List Nat) (k : Nat) : posL s k ≤ s.length := List.countP_le_length
theorem posL_at {s : List Nat} (h : s.Pairwise (· < ·)) (k : Nat) : (∀ (j : Nat) x, j < posL s k → s[j]? = some x → x < k) ∧ ∀ x, s[posL s k]? = some x → k ≤ x := by
  induction s with
  | nil => simp [posL]
  | cons y r ih =>
    have hy := List.pairwise_cons.1 h
    by_cases hk : y < k
    · have e : posL (y :: r) k = posL r k + 1 := by simp [posL, hk]
      rw [e]
      refine ⟨fun j x hj hx => ?_, fun x hx => (ih hy.2).2 x (by simpa using hx)⟩
      cases j with
      | zero => simp at hx; omega
      | succ j => exact (ih hy.2).1 j x (by omega) (by simpa using hx)
    · have e : posL (y :: r) k = 0 := by
        simp only [posL, List.countP_eq_zero]
        intro x hx
        rcases List.mem_cons.1 hx with e | e
        · simp; omega
        · have := hy.1 x e; simp; omega
      rw [e]
      exact ⟨fun j x hj => by omega, fun x hx => by simp at hx; omega⟩
theorem putL_pos {s : List Nat} (h : s.Pairwise (· < ·)) {k : Nat} (hk : k ∉ s) : putL s k = s.take (posL s k) ++ k :: s.drop (posL s k) := by
  have := posL_at h k
  rw [putL_eq s (posL s k) k this.1 this.2 (posL_le s k), if_neg]
  intro e
  exact hk (List.mem_of_getElem? e)
theorem putL_same {s : List Nat} (h : s.Pairwise (· < ·)) {k : Nat} (hk : k ∈ s) : putL s k = s :=
  rising_unique (putL_rising h k) h fun x => by rw [putL_mem]; exact ⟨fun h' => by rcases h' with e | e; · rw [e]; exact hk
                                                                                   · exact e, .inr⟩
theorem count_nats (s : List Nat) (k : Nat) : (nats s).countP (· < (k : Int)) = posL s k := by
  simp only [nats, posL, List.countP_map]
  congr 1
  funext x
  simp
theorem contains_nats (s : List Nat) (k : Nat) : (nats s).contains (k : Int) = decide (k ∈ s) := by
  rw [Bool.eq_iff_iff]
  simp [nats_mem]
theorem nats_rising {s : List Nat} (h : s.Pairwise (· < ·)) : (nats s).Pairwise (· ≤ ·) := by
  rw [nats, List.pairwise_map]
  exact h.imp fun h => by omega
/-- searching a set -/
theorem search_any (a : Option Addr) (c : Nat) (s : List Nat) (k : Nat) (w : World) (hl : s.length ≤ 1000) (h : Row w a (nats s)) (hs : s.Pairwise (· < ·)) :
    Calls Try.prog 80 #[.slice a s.length c, .int .i64 k] w fun e w' => e = .returned (.tuple #[.int .i64 (posL s k : Nat), .bool (decide (k ∈ s))]) ∧ ∃ q, w' = w.drewN q := by
  rcases h with h | ⟨b, off, rfl, hc⟩
  · have hs0 : s = [] := by cases s with | nil => rfl | cons x r => simp [nats] at h
    subst hs0
    refine (Try.slices_BinarySearch_int_empty a c k w).mono ?_
    rintro e w' ⟨rfl, rfl⟩
    exact ⟨by simp [posL], 0, rfl⟩
  · have := Try.slices_BinarySearch_int b off s.length c (nats s) k w (by rw [nats_length]; exact Nat.le_refl _) (by omega) (fun j hj => by rw [hc j hj]; rfl) (by rw [List.take_of_length_le (by rw [nats_length]; exact Nat.le_refl _)]; exact nats_rising hs)
    rw [List.take_of_length_le (by rw [nats_length]; exact Nat.le_refl _), count_nats, contains_nats] at this
    exact this
/-- a row with one of its spare cells -/
theorem own_more {w : World} {B g n c : Nat} {xs : List Value} (h : w.ownsRow B 3 1 (.slice (some ⟨g, 0, none⟩) n c) n xs) (hc : n + 1 ≤ c) : ∃ u, w.ownsRow B 3 1 (.slice (some ⟨g, 0, none⟩) (n + 1) c) (n + 1) (xs ++ [u]) := by
  rcases h.2 with ⟨h0, _⟩ | ⟨g', cap, cur, hv, hB, hg, hn, hm, hsz, htk⟩
  · cases h0
  · cases hv
    have hlt : n < cur.toList.length := by simp; omega
    refine ⟨cur.toList[n], ?_, .inr ⟨g, c, cur, rfl, hB, hg, hc, hm, hsz, ?_⟩⟩
    · have := h.1; simp; omega
    · rw [Nat.mul_one] at htk ⊢
      rw [List.take_add_one, htk, List.getElem?_eq_getElem hlt]
      rfl
/-- cells of a row are written, one after the other -/
theorem own_setCells {B g c n : Nat} (vs : List Value) : ∀ (w : World) (o : Nat) (xs : List Value), w.ownsRow B 3 1 (.slice (some ⟨g, 0, none⟩) n c) n xs → o + vs.length ≤ n → (w.setCells g o vs).ownsRow B 3 1 (.slice (some ⟨g, 0, none⟩) n c) n (xs.take o ++ vs ++ xs.drop (o + vs.length)) ∧ w.grownBy (w.setCells g o vs) (some g) := by
  induction vs with
  | nil => intro w o xs h ho; exact ⟨by simpa [World.setCells] using h, World.grownBy.refl _ _⟩
  | cons v r ih =>
    intro w o xs h ho
    simp at ho
    have h1 := World.ownsRow.stored h o v
    obtain ⟨h2, h3⟩ := ih (w.setCell ⟨g, o, none⟩ v) (o + 1) _ h1.1 (by omega)
    have hl : xs.length = n := by have := h.1; omega
    refine ⟨?_, h1.2.trans h3⟩
    have e : (xs.set o v).take (o + 1) ++ r ++ (xs.set o v).drop (o + 1 + r.length) = xs.take o ++ v :: r ++ xs.drop (o + (v :: r).length) := by
      rw [take_set_succ _ _ _ (by omega), List.drop_set_of_lt (by omega), show o + (v :: r).length = o + 1 + r.length by simp; omega]
      simp
    rw [e] at h2
    exact h2
theorem own_alloc (w : World) (arr : Array Value) (n cap : Nat) (hc : arr.size = cap) (hn : n ≤ cap) (hm : cap ≤ maxLen) : (w.alloc (.cells arr 3)).ownsRow w.heap.size 3 1 (.slice (some ⟨w.heap.size, 0, none⟩) n cap) n (arr.toList.take n) :=
  ⟨by simp; omega, .inr ⟨w.heap.size, cap, arr, rfl, Nat.le_refl _, heap_alloc_new _ _, hn, hm, by omega, by rw [Nat.mul_one]⟩⟩
theorem plain_add' (b off j : Nat) : (⟨b, off, none⟩ : Addr).add j = ⟨b, off + j, none⟩ := by unfold Addr.add; split <;> simp_all
theorem own_grown {w w' : World} {B g n c : Nat} {xs : List Value} (h : w.ownsRow B 3 1 (.slice (some ⟨g, 0, none⟩) n c) n xs) : (w.drew).ownsRow B 3 1 (.slice (some ⟨g, 0, none⟩) n c) n xs := h
theorem ints_len (s : List Nat) : (ints (nats s)).length = s.length := by simp [ints, nats]
theorem ints_one (s : List Nat) : ∀ v ∈ ints (nats s), v.oneCell' = true := by
  intro v hv
  simp only [ints, List.mem_map] at hv
  obtain ⟨x, _, rfl⟩ := hv
  rfl
theorem ints_put {s : List Nat} (h : s.Pairwise (· < ·)) {k : Nat} (hk : k ∉ s) : ints (nats (putL s k)) = (ints (nats s)).take (posL s k) ++ .int .i64 k :: (ints (nats s)).drop (posL s k) := by
  rw [putL_pos h hk]
  simp [ints, nats, List.map_take, List.map_drop]
/-- the answer of putting a number to its place -/
def Ins (w w' : World) (B : Nat) (sv : Value) (s : List Nat) (k : Nat) (e : Ending) : Prop :=
  ∃ va vc, e = .returned (.slice va (s.length + 1) vc) ∧ w'.ownsRow B 3 1 (.slice va (s.length + 1) vc) (s.length + 1) (ints (nats (putL s k))) ∧ w.grownBy w' sv.ownBlock ∧ ∀ g, (Value.slice va (s.length + 1) vc).ownBlock = some g → sv.ownBlock = some g ∨ w.heap.size ≤ g
theorem insert_any (B : Nat) (sv : Value) (s : List Nat) (k vb : Nat) (w : World) (hl : s.length ≤ 1000) (hs : s.Pairwise (· < ·)) (hk : k ∉ s) (h : w.ownsRow B 3 1 sv s.length (ints (nats s))) (hB : B ≤ w.heap.size) (hv : w.heap[vb]? = some (.cells #[.int .i64 k] 3 (0, 0))) (hne : sv.ownBlock ≠ some vb) :
    Calls Try.prog 82 #[sv, .int .i64 (posL s k : Nat), .slice (some ⟨vb, 0, none⟩) 1 1] w fun e w' => Ins w w' B sv s k e := by
  have hvs : ∀ (j : Nat) v, ([.int .i64 k] : List Value)[j]? = some v → w.cell? ⟨vb, 0 + j, none⟩ = some v := by
    intro j v hj
    match j, hj with
    | 0, hj => simp at hj; subst hj; simp [World.cell?, hv]
    | j + 1, hj => simp at hj
  have h1v : ∀ v ∈ ([.int .i64 k] : List Value), v.oneCell' = true := by intro v hv; simp at hv; subst hv; rfl
  have hlen := ints_len s
  rcases h.2 with ⟨rfl, h0⟩ | ⟨g, cap, cur, rfl, hBg, hg, hn, hm, hsz, htk⟩
  · have hs0 : s = [] := List.eq_nil_of_length_eq_zero h0
    subst hs0
    refine (Try.slices_Insert_int_end_grow none 0 0 vb 0 1 1 [] [.int .i64 k] w (by omega) (by omega) (by omega) (by omega) rfl rfl (fun _ => rfl) (fun a ha => by cases ha) hvs h1v).mono ?_
    rintro e w' ⟨rfl, rfl⟩
    have hc := grownCap_ge w (0 + 1) 0 3
    have hcm := grownCap_le_maxLen w (0 + 1) 0 3 (by unfold maxLen; omega)
    generalize grownCap w (0 + 1) 0 3 = cap at hc hcm ⊢
    refine ⟨_, _, rfl, ?_, grownBy_of_below (below_of_drew (below1 w.drew _)) _, fun g hg => .inr (by cases hg; exact Nat.le_refl _)⟩
    have h2 := own_alloc w.drew (([] ++ [.int .i64 (k : Int)] : List Value).toArray ++ Builtin.zeroCells (Value.int .i64 0).cells (cap - (0 + 1))) 1 cap (by rw [Array.size_append, size_zeroCells]; simp [Value.cells]; omega) hc hcm
    refine owns_mono (B := w.heap.size) ?_ hB
    simpa [putL, ints, nats] using h2
  · have hgb : vb ≠ g := fun e => hne (by rw [e]; rfl)
    have hcs : ∀ (j : Nat) v, (ints (nats s))[j]? = some v → w.cell? ⟨g, 0 + j, none⟩ = some v := fun j v hj => by rw [Nat.zero_add]; exact rowT_at h rfl hj
    have hpl := posL_le s k
    by_cases hroom : s.length + 1 ≤ cap
    · obtain ⟨u, hu⟩ := own_more h hroom
      by_cases hp : posL s k < s.length
      · have hspc : ∀ j, j < s.length + 1 → (w.cell? ⟨g, 0 + j, none⟩).isSome = true := fun j hj => by
          rw [Nat.zero_add, hu.cellAt j (by omega), List.getElem?_eq_getElem (by simp [hlen]; omega)]; rfl
        refine (Try.slices_Insert_int_shift g 0 s.length cap (posL s k) vb 0 1 1 (ints (nats s)) [.int .i64 k] w hp (by omega) hroom (by unfold maxLen at hm; omega) hgb hlen rfl hcs hspc (fun j hj => by rw [Nat.zero_add]; exact hu.frozenAt j) hvs (ints_one s) h1v 3 3 1 cap (by simp [World.shape?, hv]) (by simp [World.shape?, hg]; omega) (by omega) (by simp [World.frozen?, hv]) (by simp [World.frozen?, hv])).mono ?_
        rintro e w' ⟨rfl, rfl⟩
        have hd : w.drew.ownsRow B 3 1 (.slice (some ⟨g, 0, none⟩) (s.length + 1) cap) (s.length + 1) (ints (nats s) ++ [u]) := hu
        obtain ⟨o1, g1⟩ := own_setCells (B := B) (c := cap) (n := s.length + 1) ((ints (nats s)).drop (posL s k)) w.drew (0 + (posL s k + 1)) _ hd (by simp [hlen]; omega)
        obtain ⟨o2, g2⟩ := own_setCells (B := B) (c := cap) (n := s.length + 1) [.int .i64 (k : Int)] _ (0 + posL s k) _ o1 (by simp; omega)
        refine ⟨_, _, rfl, ?_, (show w.grownBy w.drew (some g) from grownBy_of_below (Below.refl _ _).drew _).trans (g1.trans g2), fun g' hg' => .inl hg'⟩
        rw [ints_put hs hk]
        have e1 : ∀ (xs : List Value) (p : Nat) (a u : Value), p < xs.length → ((xs ++ [u]).take (0 + (p + 1)) ++ xs.drop p ++ (xs ++ [u]).drop (0 + (p + 1) + (xs.drop p).length)).take (0 + p) ++ [a] ++ ((xs ++ [u]).take (0 + (p + 1)) ++ xs.drop p ++ (xs ++ [u]).drop (0 + (p + 1) + (xs.drop p).length)).drop (0 + p + [a].length) = xs.take p ++ a :: xs.drop p := by
          intro xs p a u hpl
          rw [Nat.zero_add, Nat.zero_add, List.drop_of_length_le (l := xs ++ [u]) (by simp; omega), List.append_nil, List.take_append_of_le_length (by simp; omega), List.take_append_of_le_length (by omega), List.take_take, Nat.min_eq_left (by omega), List.drop_append_of_le_length (by simp; omega)]
          rw [List.drop_of_length_le (by simp; omega)]
          simp
        rw [e1 _ _ _ _ (by rw [hlen]; exact hp)] at o2
        exact o2
      · have hpe : posL s k = s.length := by omega
        rw [hpe]
        refine (Try.slices_Insert_int_end_room g 0 s.length cap vb 0 1 1 [.int .i64 k] w (by omega) hroom (by unfold maxLen at hm; omega) rfl (fun j hj => by rw [Nat.zero_add, hu.cellAt (s.length + j) (by omega), List.getElem?_eq_getElem (by simp [hlen]; omega)]; rfl) (fun j hj => by rw [Nat.zero_add]; exact hu.frozenAt _) hvs h1v).mono ?_
        rintro e w' ⟨rfl, rfl⟩
        obtain ⟨o1, g1⟩ := own_setCells (B := B) (c := cap) (n := s.length + 1) [.int .i64 (k : Int)] w (0 + s.length) _ hu (by simp)
        refine ⟨_, _, rfl, ?_, g1, fun g' hg' => .inl hg'⟩
        rw [ints_put hs hk, hpe]
        have e1 : ((ints (nats s) ++ [u]).take (0 + s.length) ++ [.int .i64 (k : Int)] ++ (ints (nats s) ++ [u]).drop (0 + s.length + [Value.int .i64 (k : Int)].length)) = (ints (nats s)).take s.length ++ .int .i64 k :: (ints (nats s)).drop s.length := by
          rw [Nat.zero_add, List.take_append_of_le_length (by omega), List.drop_of_length_le (l := ints (nats s) ++ [u]) (by simp; omega), List.drop_of_length_le (l := ints (nats s)) (by omega)]
          simp
        rw [e1] at o1
        exact o1
    · have hcl : cap = s.length := by omega
      have hc := grownCap_ge w (s.length + 1) cap 3
      have hcm := grownCap_le_maxLen w (s.length + 1) cap 3 (by unfold maxLen; omega)
      by_cases hp : posL s k < s.length
      · refine (Try.slices_Insert_int_grow g 0 s.length cap (posL s k) vb 0 1 1 (ints (nats s)) [.int .i64 k] w hp (by omega) hn (by omega) (by omega) hlen rfl hcs hvs (ints_one s) h1v).mono ?_
        rintro e w' ⟨rfl, rfl⟩
        generalize grownCap w (s.length + 1) cap 3 = cap' at hc hcm ⊢
        have h2 := own_alloc w (((ints (nats s)).take (posL s k)).toArray ++ Builtin.zeroCells (Value.int .i64 0).cells (s.length + 1 - posL s k) ++ Builtin.zeroCells (Value.int .i64 0).cells (cap' - (s.length + 1))) (s.length + 1) cap' (by rw [Array.size_append, Array.size_append, size_zeroCells, size_zeroCells]; simp [Value.cells, hlen]; omega) hc hcm
        generalize hA : (((ints (nats s)).take (posL s k)).toArray ++ Builtin.zeroCells (Value.int .i64 0).cells (s.length + 1 - posL s k) ++ Builtin.zeroCells (Value.int .i64 0).cells (cap' - (s.length + 1))) = arr at h2 ⊢
        have htk : (arr.toList.take (s.length + 1)).take (posL s k) = (ints (nats s)).take (posL s k) := by
          rw [← hA, List.take_take, Nat.min_eq_left (by omega)]
          simp only [Array.toList_append, List.append_assoc]
          rw [List.take_append_of_le_length (by simp [hlen]; omega), List.take_take, Nat.min_self]
        have hal : (arr.toList.take (s.length + 1)).length = s.length + 1 := by have := h2.1; omega
        obtain ⟨o1, g1⟩ := own_setCells (B := w.heap.size) (c := cap') (n := s.length + 1) [.int .i64 (k : Int)] (w.alloc (.cells arr 3)).drew (posL s k) _ h2 (by simp; omega)
        obtain ⟨o2, g2⟩ := own_setCells (B := w.heap.size) (c := cap') (n := s.length + 1) ((ints (nats s)).drop (posL s k)) ((w.alloc (.cells arr 3)).drew.setCells w.heap.size (posL s k) [.int .i64 (k : Int)]).drew (posL s k + 1) _ o1 (by simp [hlen]; omega)
        refine ⟨_, _, rfl, owns_mono ?_ hB, ?_, fun g' hg' => .inr (by cases hg'; exact Nat.le_refl _)⟩
        · rw [ints_put hs hk]
          have e1 : ∀ (ys xs : List Value) (p : Nat) (a : Value), ys.take p = xs.take p → p < xs.length → ys.length = xs.length + 1 → (ys.take p ++ [a] ++ ys.drop (p + [a].length)).take (p + 1) ++ xs.drop p ++ (ys.take p ++ [a] ++ ys.drop (p + [a].length)).drop (p + 1 + (xs.drop p).length) = xs.take p ++ a :: xs.drop p := by
            intro ys xs p a hy hpl hyl
            rw [List.drop_of_length_le (l := ys.take p ++ [a] ++ ys.drop (p + [a].length)) (by simp; omega), List.append_nil, List.take_append_of_le_length (by simp; omega), List.take_of_length_le (by simp; omega), hy]
            simp
          rw [e1 _ _ _ _ htk (by rw [hlen]; exact hp) (by rw [hal, hlen])] at o2
          exact o2
        · refine grownBy_of_below ?_ _
          have b1 : Below w.heap.size w (w.alloc (.cells arr 3)).drew := (below1 w _).drew
          have b2 := b1.grown g1 b1.size (fun j hj => by cases hj; exact Nat.le_refl _)
          have b3 : Below w.heap.size w ((w.alloc (.cells arr 3)).drew.setCells w.heap.size (posL s k) [.int .i64 (k : Int)]).drew := b2.drew
          exact b3.grown g2 b3.size (fun j hj => by cases hj; exact Nat.le_refl _)
      · have hpe : posL s k = s.length := by omega
        rw [hpe]
        refine (Try.slices_Insert_int_end_grow (some ⟨g, 0, none⟩) s.length cap vb 0 1 1 (ints (nats s)) [.int .i64 k] w (by omega) hn (by omega) (by omega) hlen rfl (fun h => by cases h) (fun a ha j v hj => by cases ha; rw [plain_add']; exact hcs j v hj) hvs h1v).mono ?_
        rintro e w' ⟨rfl, rfl⟩
        generalize grownCap w (s.length + 1) cap 3 = cap' at hc hcm ⊢
        have h2 := own_alloc w.drew ((ints (nats s) ++ [.int .i64 (k : Int)] : List Value).toArray ++ Builtin.zeroCells (Value.int .i64 0).cells (cap' - (s.length + 1))) (s.length + 1) cap' (by rw [Array.size_append, size_zeroCells]; simp [Value.cells, hlen]; omega) hc hcm
        refine ⟨_, _, rfl, owns_mono (B := w.heap.size) ?_ hB, grownBy_of_below (below_of_drew (below1 w.drew _)) _, fun g' hg' => .inr (by cases hg'; exact Nat.le_refl _)⟩
        rw [ints_put hs hk, hpe]
        have e1 : (((ints (nats s) ++ [.int .i64 (k : Int)] : List Value).toArray ++ Builtin.zeroCells (Value.int .i64 0).cells (cap' - (s.length + 1))).toList.take (s.length + 1)) = (ints (nats s)).take s.length ++ .int .i64 k :: (ints (nats s)).drop s.length := by
          rw [Array.toList_append, List.take_append_of_le_length (by simp [hlen]), List.take_of_length_le (by simp [hlen]), List.drop_of_length_le (l := ints (nats s)) (by omega), List.take_of_length_le (l := ints (nats s)) (by omega)]
        rw [e1] at h2
        exact h2
/-- nothing but some blocks is written -/
structure Only (P : Nat → Prop) (w w' : World) : Prop where
  os : w'.os = w.os
  tape : w'.tape = w.tape
  output : w'.output = w.output
  size : w.heap.size ≤ w'.heap.size
  block : ∀ k, k < w.heap.size → ¬ P k → w'.heap[k]? = w.heap[k]?
theorem Only.refl (P : Nat → Prop) (w : World) : Only P w w := ⟨rfl, rfl, rfl, Nat.le_refl _, fun _ _ _ => rfl⟩
theorem Only.trans {P Q : Nat → Prop} {a b c : World} (h : Only P a b) (k : Only Q b c) (hPQ : ∀ i, i < a.heap.size → Q i → P i) : Only P a c :=
  ⟨k.os.trans h.os, k.tape.trans h.tape, k.output.trans h.output, Nat.le_trans h.size k.size, fun i hi hn => (k.block i (Nat.lt_of_lt_of_le hi h.size) (fun hq => hn (hPQ i hi hq))).trans (h.block i hi hn)⟩
theorem Only.of_below {P : Nat → Prop} {w w' : World} (h : Below w.heap.size w w') : Only P w w' := ⟨h.os, h.tape, h.output, h.size, fun k hk _ => h.block k hk⟩
theorem Only.of_grown {P : Nat → Prop} {w w' : World} {row : Option Nat} (h : w.grownBy w' row) (hr : ∀ k, row = some k → P k) : Only P w w' := ⟨h.os, h.tape, h.output, h.size, fun k hk hn => h.block k hk (fun e => hn (hr k e.symm))⟩
theorem Only.mono {P Q : Nat → Prop} {w w' : World} (h : Only P w w') (hPQ : ∀ i, i < w.heap.size → P i → Q i) : Only Q w w' := ⟨h.os, h.tape, h.output, h.size, fun k hk hn => h.block k hk (fun hp => hn (hPQ k hk hp))⟩
theorem Only.below {P : Nat → Prop} {w0 w w' : World} (h : Only P w w') (hb : Below w0.heap.size w0 w) (hP : ∀ k, P k → w0.heap.size ≤ k) : Below w0.heap.size w0 w' :=
  ⟨h.os.trans hb.os, h.tape.trans hb.tape, h.output.trans hb.output, Nat.le_trans hb.size h.size, fun k hk => (h.block k (Nat.lt_of_lt_of_le hk hb.size) (fun hp => by have := hP k hp; omega)).trans (hb.block k hk)⟩
theorem Only.own {P : Nat → Prop} {w w' : World} {B e size n : Nat} {v : Value} {xs : List Value} (h : Only P w w') (ho : w.ownsRow B e size v n xs) (hn : ∀ k, v.ownBlock = some k → ¬ P k) : w'.ownsRow B e size v n xs := by
  refine ⟨ho.1, ?_⟩
  rcases ho.2 with h0 | ⟨g, cap, cur, hv, hb, hgg, rest⟩
  · exact .inl h0
  · refine .inr ⟨g, cap, cur, hv, hb, ?_, rest⟩
    rw [h.block g (Array.getElem?_eq_some_iff.1 hgg).1 (hn g (by rw [hv]; rfl))]
    exact hgg
theorem Only.sep {P : Nat → Prop} {w w' : World} {B : Nat} {l : List OR} (h : Only P w w') (hs : Sep w B l) (hn : ∀ x ∈ l, ∀ k, x.v.ownBlock = some k → ¬ P k) : Sep w' B l := ⟨fun x hx => h.own (hs.1 x hx) (hn x hx), hs.2⟩
theorem Only.setCell (w : World) (b j : Nat) (u : Value) : Only (fun k => k = b) w (w.setCell ⟨b, j, none⟩ u) := ⟨rfl, rfl, rfl, by simp [World.setCell], fun k hk hn => Below.heap_setCell _ _ _ _ (fun e => hn e)⟩
set_option maxHeartbeats 1000000 in
/-- a number is put into a set that lies in a cell -/
theorem add_any (E size pb n c j : Nat) (xs : List Value) (sv : Value) (s : List Nat) (k : Nat) (l2 : List OR) (B : Nat) (w : World) (h : Sep w B (⟨E, size, .slice (some ⟨pb, 0, none⟩) n c, n, xs⟩ :: ⟨3, 1, sv, s.length, ints (nats s)⟩ :: l2)) (hj : xs[j]? = some sv) (hs : s.Pairwise (· < ·)) (hl : s.length ≤ 1000) (hB : B ≤ w.heap.size) :
    Calls Try.prog 71 #[.pointer (some ⟨pb, j, none⟩), .int .i64 k] w fun e w' => e = .returned (.tuple #[]) ∧ ∃ sv', Sep w' B (⟨E, size, .slice (some ⟨pb, 0, none⟩) n c, n, xs.set j sv'⟩ :: ⟨3, 1, sv', (putL s k).length, ints (nats (putL s k))⟩ :: l2) ∧ Only (fun b => b = pb ∨ sv.ownBlock = some b) w w' ∧ ∀ g, sv'.ownBlock = some g → sv.ownBlock = some g ∨ w.heap.size ≤ g := by
  have ho : w.ownsRow B 3 1 sv s.length (ints (nats s)) := h.1 ⟨3, 1, sv, s.length, ints (nats s)⟩ (by simp)
  have hh : w.ownsRow B E size (.slice (some ⟨pb, 0, none⟩) n c) n xs := h.1 ⟨E, size, .slice (some ⟨pb, 0, none⟩) n c, n, xs⟩ (by simp)
  have hpb := (hh.lt pb rfl).2
  obtain ⟨sa, sc, rfl⟩ := slice_of_owned ho
  have c0 : w.cell? ⟨pb, j, none⟩ = some (.slice sa s.length sc) := rowT_at hh rfl hj
  have hr : Row w sa (nats s) := own_row (c := sc) (B := B) (by rw [nats_length]; exact ho)
  have HS := hid (search_any sa sc s k w hl hr hs)
  by_cases hk : k ∈ s
  · have HP := hid (And.intro (putL_same hs hk) h)
    have HJ : Hid (xs.set j (.slice sa s.length sc) = xs) := by
      apply List.ext_getElem?
      intro i
      by_cases e : i = j
      · subst e; rw [List.getElem?_set_self (List.getElem?_eq_some_iff.1 hj).1, hj]
      · rw [List.getElem?_set_ne (fun h => e h.symm)]
    have hk2 : decide (k ∈ s) = true := decide_eq_true hk
    rw [hk2] at HS
    clear h ho hh hr hj hk hk2
    go_enter Try.func71, Try.ntmps71
    go_wp2_with fail
    refine HS.out.mono ?_
    rintro e w1 ⟨rfl, q, rfl⟩
    go_wp2
    go_end0
    refine ⟨rfl, .slice sa s.length sc, ?_, .of_below (below_drewN (Below.refl _ _) q), fun g hg => .inl hg⟩
    rw [HJ.out, HP.out.1]
    exact HP.out.2
  · have hk2 : decide (k ∈ s) = false := decide_eq_false hk
    rw [hk2] at HS
    have HI : Hid (∀ q, Calls Try.prog 82 #[.slice sa s.length sc, .int .i64 (posL s k : Nat), .slice (some ⟨w.heap.size, 0, none⟩) 1 1] ((w.drewN q).alloc (.cells #[.int .i64 k] 3)) fun e w' => Ins ((w.drewN q).alloc (.cells #[.int .i64 k] 3)) w' B (.slice sa s.length sc) s k e) := fun q => by
      refine insert_any B _ s k w.heap.size _ hl hs hk (owns_below (show (w.drewN q).ownsRow B 3 1 (.slice sa s.length sc) s.length (ints (nats s)) from ho) (below1 _ _)) (by simp; omega) (heap_alloc_new (w.drewN q) _) ?_
      intro e
      have := (ho.lt _ e).2
      omega
    have HH := hid h
    have HJ := hid hj
    have HP := hid (putL_len' s k hk)
    clear h ho hh hr hj hk hk2
    go_enter Try.func71, Try.ntmps71
    go_wp2_with fail
    refine HS.out.mono ?_
    rintro e w1 ⟨rfl, q, rfl⟩
    go_wp2_with fail
    refine (HI.out q).mono ?_
    rintro e w2 ⟨va, vc, rfl, ho2, hg2, hn2⟩
    have b1 : Below w.heap.size w ((w.drewN q).alloc (.cells #[.int .i64 k] 3)) := (below_drewN (Below.refl _ w) q).alloc (Nat.le_refl _) _
    have hs2 := Sep.turn [⟨E, size, .slice (some ⟨pb, 0, none⟩) n c, n, xs⟩] HH.out b1 hg2 ⟨3, 1, .slice va (s.length + 1) vc, s.length + 1, ints (nats (putL s k))⟩ ho2 (fun g hg => (hn2 g hg).imp id (fun h => Nat.le_trans b1.size h))
    have hh2 := hs2.1 ⟨E, size, .slice (some ⟨pb, 0, none⟩) n c, n, xs⟩ (by simp)
    have c2 : w2.cell? ⟨pb, j, none⟩ = some (.slice sa s.length sc) := rowT_at hh2 rfl HJ.out
    have f2 : w2.frozen? ⟨pb, j, none⟩ = false := rowT_frz hh2 rfl j
    have HS2 := hid hs2
    have HO2 : Hid (Only (fun b => b = pb ∨ (Value.slice sa s.length sc).ownBlock = some b) w w2) := (Only.of_below b1).trans (Only.of_grown (P := fun b => b = pb ∨ (Value.slice sa s.length sc).ownBlock = some b) hg2 (fun g hg => .inr hg)) (fun _ _ h => h)
    have HN2 : Hid (∀ g, (Value.slice va (s.length + 1) vc).ownBlock = some g → (Value.slice sa s.length sc).ownBlock = some g ∨ w.heap.size ≤ g) := fun g hg => (hn2 g hg).imp id (fun h => Nat.le_trans b1.size h)
    clear hs2 hh2 ho2 hg2 hn2 b1
    go_wp2
    go_end0
    refine ⟨rfl, .slice va (s.length + 1) vc, ?_, HO2.out.trans (Only.setCell _ _ _ _) (fun i _ h => .inl h), HN2.out⟩
    rw [HP.out]
    exact Sep.store [] HS2.out j _
end Go.Proofs.Ytiaiaejijicddaa
