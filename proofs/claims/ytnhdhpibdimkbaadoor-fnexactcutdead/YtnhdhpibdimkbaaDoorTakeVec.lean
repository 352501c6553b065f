/- What TakeVec of the program and of the model answers, at every text and place: the list in new memory, and the place behind. -/
import Derived.Test.YtnhdhpibdimkbaaDoorTakeLaw
import Derived.Test.YtnhdhpibdimkbaaDoorVecMath
import Derived.OwnWalk
import Derived.Maps.AppendAt
import Derived.RangeFuncBox
namespace Go.Proofs.YtnhdhpibdimkbaaDoor
open Go.RowKit
set_option linter.unusedVariables false
set_option maxRecDepth 100000

theorem info3 : (Tryd.prog.info? 3).map (fun i => (i.zero, i.size, i.bytes)) = some (some (.int .i64 0), 1, 8) := by kernel_rfl

/-- a row of numbers as cells -/
def ints (xs : List Int) : List Value := xs.map (Value.int .i64)
theorem ints_length (xs : List Int) : (ints xs).length = xs.length := by simp [ints]

/-- what TakeVec answers in the world behind -/
def vecAns (B : Nat) (w' : World) (r : Option (List Int × Nat)) (e : Ending) : Prop := match r with
  | none => e = .returned (.tuple #[.slice none 0 0, .int .i64 0, .bool false])
  | some (xs, p) => ∃ v, e = .returned (.tuple #[v, .int .i64 p, .bool true]) ∧ w'.ownsRow B 3 1 v xs.length (ints xs)

set_option maxHeartbeats 400000 in
/-- the model's TakeVec -/
theorem sTakeVec_any (s : ByteArray) (a : Int) (w : World) (hm : s.size ≤ 9223372036854775807) :
    Calls Tryd.prog 78 #[.string s, .int .i64 a] w fun e w' => vecAns w.heap.size w' (vecOf s a) e ∧ Below w.heap.size w w' := by
  have ht := fun w => sTakeU_any s a w hm
  cases hr : resU s a with
  | none =>
    have hv : vecOf s a = none := by simp [vecOf, hr]
    rw [hr] at ht
    rw [hv]
    have HT : Hid (∀ w, Calls Tryd.prog 80 #[.string s, .int .i64 a] w fun e w' => e = .returned (takeV none) ∧ w' = w) := ht
    clear ht hr hv
    go_enter Tryd.func78, Tryd.ntmps78
    go_wp2_with (first
      | (go_at_call 80; refine (HT.out _).mono ?_; rintro e w' ⟨rfl, rfl⟩; unfold takeV))
    go_ret3
    exact ⟨rfl, Below.refl _ _⟩
  | some me =>
    obtain ⟨m, e0⟩ := me
    have hp := resU_pos s a m e0 hr
    rw [hr] at ht
    have HT : Hid (∀ w, Calls Tryd.prog 80 #[.string s, .int .i64 a] w fun e' w' => e' = .returned (takeV (some (m, e0))) ∧ w' = w) := ht
    by_cases h50 : m ≤ 50
    · have hv : vecOf s a = rd s m.toNat e0 [] := by simp [vecOf, hr, h50]
      obtain ⟨k0, rfl⟩ := Int.eq_ofNat_of_zero_le hp.1
      rw [Int.toNat_natCast] at hv
      rw [hv]
      obtain ⟨i0, hi, hz0, hz1, hz2⟩ := info_parts info3
      have h50' : k0 ≤ 50 := by omega
      have he0 : e0 ≤ 1000 := hp.2.2
      clear ht hr hv hp
      go_enter Tryd.func78, Tryd.ntmps78
      go_wp2_with (first
        | (go_at_call 80; refine (HT.out _).mono ?_; rintro e w' ⟨rfl, hw⟩; subst w'; unfold takeV))
      go_loopw [1, 7, 9] (fun t1 t7 t9 wr => ∃ (e k : Nat) (acc : List Int) (v : Value), t1 = .int .i64 e ∧ t7 = .int .i64 k ∧ t9 = v ∧ wr.ownsRow w.heap.size 3 1 v acc.length (ints acc) ∧ Below w.heap.size w wr ∧ rd s k0 e0 [] = rd s k e acc ∧ acc.length + k = k0 ∧ e ≤ 1000) (fun _ t7 _ _ => (intOf t7).toNat)
      case atStart => exact ⟨e0, k0, [], _, rfl, rfl, rfl, World.ownsRow_nil _ _ _ _, Below.refl _ _, rfl, by simp, he0⟩
      case round =>
        obtain ⟨e, k, acc, v, rfl, rfl, rfl, hown, hB, hrd, hl, he⟩ := hrel
        have HR : Hid (rd s k0 e0 [] = rd s k e acc) := hrd
        have hal : acc.length + k ≤ 50 := by omega
        have HL : Hid (acc.length + k = k0) := hl
        clear hrd hl
        by_cases hk : k = 0
        · subst hk
          go_wp2
          go_ret3
          refine ⟨?_, hB⟩
          rw [HR.out]
          exact ⟨_, rfl, hown⟩
        · obtain ⟨j, rfl⟩ : ∃ j, k = j + 1 := ⟨k - 1, by omega⟩
          have hsz := hB.size
          have ht2 := fun w => sTakeU_any s e w hm
          cases hr2 : resU s e with
          | none =>
            rw [hr2] at ht2
            have H2 : Hid (∀ w, Calls Tryd.prog 80 #[.string s, .int .i64 e] w fun e' w' => e' = .returned (takeV none) ∧ w' = w) := ht2
            have HN : Hid (rd s (j + 1) e acc = none) := rd_none s j e acc hr2
            clear ht2 hr2
            go_wp2_with (first
              | (go_at_call 80; refine (H2.out _).mono ?_; rintro e w' ⟨rfl, hw⟩; subst w'; unfold takeV))
            go_ret3
            refine ⟨?_, hB⟩
            rw [HR.out, HN.out]
            rfl
          | some ne =>
            obtain ⟨x, e2⟩ := ne
            have hp2 := resU_pos s e x e2 hr2
            rw [hr2] at ht2
            have H2 : Hid (∀ w, Calls Tryd.prog 80 #[.string s, .int .i64 e] w fun e' w' => e' = .returned (takeV (some (x, e2))) ∧ w' = w) := ht2
            have HN : Hid (rd s (j + 1) e acc = rd s j e2 (acc ++ [x])) := rd_some s j e acc x e2 hr2
            clear ht2 hr2
            go_wp2_with (first
              | (go_at_call 80; refine (H2.out _).mono ?_; rintro e w' ⟨rfl, hw⟩; subst w'; unfold takeV)
              | (at_builtin; refine wpList_append_own _ rfl _ _ 27 rfl w.heap.size 3 i0 (.int .i64 0) 1 8 Tryd.underlying27 hi hz0 hz1 hz2 rfl (by decide) _ _ _ rfl (hown.alloc _) ⟨wr.heap.size, 0, none⟩ 1 1 [.int .i64 x] rfl rfl (cell_one_new _ _ _) ?c2 ?c3 ?c4 ?c5 ?_))
            case c2 => intro u hu; simp at hu; subst hu; rfl
            case c3 => unfold maxLen; omega
            case c4 => omega
            case c5 => simp; omega
            intro v' w2 hown' hgrow _
            obtain ⟨g, cap, rfl⟩ := ownsRow_succ hown'
            go_wp2
            go_roundw
            case rel =>
              refine ⟨e2, j, acc ++ [x], _, by go_num, by go_num, rfl, ?_, ?_, by rw [HR.out, HN.out], by have := HL.out; simp; omega, hp2.2.2⟩
              · simpa [ints] using hown'
              · exact (hB.alloc hB.size _).grown hgrow (by simp; omega) (fun k hk => (hown.lt k hk).1)
            case measure => simp [intOf]
    · have hv : vecOf s a = none := by simp [vecOf, hr, h50]
      rw [hv]
      clear ht hr hv
      go_enter Tryd.func78, Tryd.ntmps78
      go_wp2_with (first
        | (go_at_call 80; refine (HT.out _).mono ?_; rintro e w' ⟨rfl, rfl⟩; unfold takeV))
      go_ret3
      exact ⟨rfl, Below.refl _ _⟩

theorem made_ints (n : Nat) : (madeCells #[Value.int .i64 0] n).toList = ints (List.replicate n 0) := by
  rw [toList_madeCells_one]
  simp [ints]

set_option maxHeartbeats 400000 in
/-- the program's TakeVec -/
theorem iTakeVec_any (s : ByteArray) (a : Int) (w : World) (hm : s.size ≤ 9223372036854775807) :
    Calls Tryd.prog 113 #[.string s, .int .i64 a] w fun e w' => vecAns w.heap.size w' (vecOf s a) e ∧ Below w.heap.size w w' := by
  have ht := fun w => iTakeU_any s a w hm
  cases hr : resU s a with
  | none =>
    have hv : vecOf s a = none := by simp [vecOf, hr]
    rw [hr] at ht
    rw [hv]
    have HT : Hid (∀ w, Calls Tryd.prog 114 #[.string s, .int .i64 a] w fun e w' => e = .returned (takeV none) ∧ w' = w) := ht
    clear ht hr hv
    go_enter Tryd.func113, Tryd.ntmps113
    go_wp2_with (first
      | (go_at_call 114; refine (HT.out _).mono ?_; rintro e w' ⟨rfl, rfl⟩; unfold takeV))
    go_ret3
    exact ⟨rfl, Below.refl _ _⟩
  | some me =>
    obtain ⟨m, e0⟩ := me
    have hp := resU_pos s a m e0 hr
    rw [hr] at ht
    have HT : Hid (∀ w, Calls Tryd.prog 114 #[.string s, .int .i64 a] w fun e' w' => e' = .returned (takeV (some (m, e0))) ∧ w' = w) := ht
    by_cases h50 : m ≤ 50
    · have hv : vecOf s a = rd s m.toNat e0 [] := by simp [vecOf, hr, h50]
      obtain ⟨k0, rfl⟩ := Int.eq_ofNat_of_zero_le hp.1
      rw [Int.toNat_natCast] at hv
      rw [hv]
      obtain ⟨i0, hi, hz0, hz1, hz2⟩ := info_parts info3
      have h50' : k0 ≤ 50 := by omega
      have he0 : e0 ≤ 1000 := hp.2.2
      clear ht hr hv hp
      go_enter Tryd.func113, Tryd.ntmps113
      go_wp2_with (first
        | (go_at_call 114; refine (HT.out _).mono ?_; rintro e w' ⟨rfl, hw⟩; subst w'; unfold takeV)
        | (at_make; refine wpList_make_full _ rfl _ _ 27 rfl w.heap.size 3 i0 (.int .i64 0) 1 Tryd.underlying27 hi hz0 hz1 .i64 .i64 _ _ k0 rfl rfl rfl rfl ?c1 ?c2 ?c3 ?_))
      case c1 => rw [hz2]; omega
      case c2 => unfold maxLen; omega
      case c3 => omega
      intro w1 hown0 hgrow0
      rw [made_ints] at hown0
      have hB0 : Below w.heap.size w w1 := (Below.refl _ w).grown hgrow0 (Nat.le_refl _) (fun k hk => by cases hk)
      go_wp2
      go_loopw [8, 29] (fun t8 t29 wr => ∃ (e j : Nat) (acc : List Int), t8 = .int .i64 e ∧ t29 = .int .i64 j ∧ wr.ownsRow w.heap.size 3 1 (.slice (some ⟨w.heap.size, 0, none⟩) k0 k0) k0 (ints (acc ++ List.replicate (k0 - j) 0)) ∧ Below w.heap.size w wr ∧ rd s k0 e0 [] = rd s (k0 - j) e acc ∧ acc.length = j ∧ j ≤ k0 ∧ e ≤ 1000) (fun _ t29 _ => k0 - (intOf t29).toNat)
      case atStart => exact ⟨e0, 0, [], rfl, rfl, by simpa using hown0, hB0, rfl, rfl, by omega, he0⟩
      case round =>
        obtain ⟨e, j, acc, rfl, rfl, hown, hB, hrd, hl, hj, he⟩ := hrel
        have HR : Hid (rd s k0 e0 [] = rd s (k0 - j) e acc) := hrd
        have HL : Hid (acc.length = j) := hl
        clear hrd hl hown0 hgrow0 hB0
        by_cases hk : j < k0
        · have hsz := hB.size
          have hc := hown.cellAt j (by omega)
          have hf := hown.frozenAt j
          have hcj : (ints (acc ++ List.replicate (k0 - j) 0))[j]? = some (.int .i64 0) := by
            have := HL.out
            simp [ints, List.getElem?_append, this, List.getElem?_replicate]
            omega
          rw [hcj] at hc
          obtain ⟨q, hq⟩ : ∃ q, k0 - j = q + 1 := ⟨k0 - j - 1, by omega⟩
          have HQ : Hid (k0 - j = q + 1) := hq
          clear hcj hq
          have ht2 := fun w => iTakeU_any s e w hm
          cases hr2 : resU s e with
          | none =>
            rw [hr2] at ht2
            have H2 : Hid (∀ w, Calls Tryd.prog 114 #[.string s, .int .i64 e] w fun e' w' => e' = .returned (takeV none) ∧ w' = w) := ht2
            have HN : Hid (rd s (k0 - j) e acc = none) := by rw [HQ.out]; exact rd_none s q e acc hr2
            clear ht2 hr2
            go_wp2_with (first
              | (go_at_call 114; refine (H2.out _).mono ?_; rintro e w' ⟨rfl, hw⟩; subst w'; unfold takeV))
            go_ret3
            refine ⟨?_, ?_⟩
            · rw [HR.out, HN.out]
              rfl
            · exact hB.setCell (p := ⟨w.heap.size, j, none⟩) (Nat.le_refl _) _
          | some ne =>
            obtain ⟨x, e2⟩ := ne
            have hp2 := resU_pos s e x e2 hr2
            rw [hr2] at ht2
            have H2 : Hid (∀ w, Calls Tryd.prog 114 #[.string s, .int .i64 e] w fun e' w' => e' = .returned (takeV (some (x, e2))) ∧ w' = w) := ht2
            have HN : Hid (rd s (k0 - j) e acc = rd s q e2 (acc ++ [x])) := by rw [HQ.out]; exact rd_some s q e acc x e2 hr2
            clear ht2 hr2
            go_wp2_with (first
              | (go_at_call 114; refine (H2.out _).mono ?_; rintro e w' ⟨rfl, hw⟩; subst w'; unfold takeV))
            go_roundw
            case rel =>
              have hst := hown.stored j (.int .i64 x)
              refine ⟨e2, j + 1, acc ++ [x], by go_num, by go_num, ?_, hB.setCell (p := ⟨w.heap.size, j, none⟩) (Nat.le_refl _) _, ?_, ?_, by omega, hp2.2.2⟩
              · have e1 : (ints (acc ++ List.replicate (k0 - j) 0)).set j (.int .i64 x) = ints (acc ++ [x] ++ List.replicate (k0 - (j + 1)) 0) := by
                  have := HL.out
                  subst this
                  rw [HQ.out, show k0 - (acc.length + 1) = q by have := HQ.out; omega]
                  simp [ints, List.replicate_succ]
                rw [← e1]
                exact hst.1
              · rw [HR.out, HN.out]
                congr 1
                have := HQ.out; omega
              · have := HL.out; simp; omega
            case measure => simp [intOf]; omega
        · obtain rfl : j = k0 := by omega
          go_wp2
          go_ret3
          refine ⟨?_, hB⟩
          rw [HR.out]
          have := HL.out
          subst this
          simp only [Nat.sub_self, List.replicate_zero, List.append_nil] at hown ⊢
          exact ⟨_, rfl, hown⟩
    · have hv : vecOf s a = none := by simp [vecOf, hr, h50]
      rw [hv]
      clear ht hr hv
      go_enter Tryd.func113, Tryd.ntmps113
      go_wp2_with (first
        | (go_at_call 114; refine (HT.out _).mono ?_; rintro e w' ⟨rfl, rfl⟩; unfold takeV))
      go_ret3
      exact ⟨rfl, Below.refl _ _⟩
end Go.Proofs.YtnhdhpibdimkbaaDoor
