/- What the library's Join does in this program: some texts, a blank between each two. -/
import Derived.Shelf.Strings.Builder2
import Derived.Test.YtkdabjdobpdooaaDoorShelf
import Derived.Test.YtkdabjdobpdooaaDoorSteps1
import Derived.Test.YtkdabjdobpdooaaDoorCode2
namespace Go.Proofs.YtkdabjdobpdooaaDoor
open Go.Shelf Go.RowKit
set_option linter.unusedVariables false
set_option linter.unusedSimpArgs false
set_option maxRecDepth 100000
def lays165_ren : Go.Shelf.Ren := ⟨fun | 165 => 96 | 240 => 75 | 241 => 108 | 276 => 98 | 277 => 114 | n => n, fun | 70 => 58 | 3 => 3 | 0 => 0 | 4 => 4 | 9 => 9 | 20 => 20 | 72 => 60 | 37 => 22 | 164 => 118 | 5 => 5 | n => n, fun | n => n⟩
theorem lays165 : Go.Proofs.Lays.n165 Tryd.prog lays165_ren := {
  mixed := by kernel_rfl
  f165 := Tryd.func96.trans (congrArg some (by kernel_rfl))
  f240 := Tryd.func75.trans (congrArg some (by kernel_rfl))
  f241 := Tryd.func108.trans (congrArg some (by kernel_rfl))
  f276 := Tryd.func98.trans (congrArg some (by kernel_rfl))
  f277 := Tryd.func114.trans (congrArg some (by kernel_rfl))
  t0 := Tryd.underlying0
  a0 := Tryd.isAgg0
  z0 := Tryd.sizeOf0
  v0 := Tryd.zeroValue0
  t3 := Tryd.underlying3
  a3 := Tryd.isAgg3
  z3 := Tryd.sizeOf3
  v3 := Tryd.zeroValue3
  t4 := Tryd.underlying4
  a4 := Tryd.isAgg4
  z4 := Tryd.sizeOf4
  v4 := Tryd.zeroValue4
  t9 := Tryd.underlying9
  a9 := Tryd.isAgg9
  z9 := Tryd.sizeOf9
  v9 := Tryd.zeroValue9
  t20 := Tryd.underlying20
  a20 := Tryd.isAgg20
  z20 := Tryd.sizeOf20
  v20 := Tryd.zeroValue20
  t37 := Tryd.underlying22
  a37 := Tryd.isAgg22
  z37 := Tryd.sizeOf22
  v37 := Tryd.zeroValue22
  t70 := Tryd.underlying58
  a70 := Tryd.isAgg58
  z70 := Tryd.sizeOf58
  v70 := Tryd.zeroValue58
  t72 := Tryd.underlying60
  a72 := Tryd.isAgg60
  z72 := Tryd.sizeOf60
  v72 := Tryd.zeroValue60
  t164 := Tryd.underlying118
  a164 := Tryd.isAgg118
  z164 := Tryd.sizeOf118
  v164 := Tryd.zeroValue118 }
theorem Builder_Extra_165 : Builder.Extra Tryd.prog lays165_ren := {
  sizeBuilder := by kernel_rfl
  liesBuilder := by kernel_rfl
  t5 := Tryd.underlying5
  a5 := Tryd.isAgg5
  z5 := Tryd.sizeOf5
  v5 := Tryd.zeroValue5
  infoByte := by kernel_rfl
  cellsByte := by kernel_rfl
  sizeByte := by kernel_rfl
  neB5 := by decide }
open Go.RowKit in
/-- (*strings.Builder).Grow AT A BUILDER THAT HAS NOT BEEN WRITTEN ('var b strings.Builder; b.Grow(n)'): "Grow grows b's capacity, if necessary, to guarantee space for another n bytes.": it holds no byte behind it as before it. (LAID: no walk: one application.) -/
theorem Builder_Grow_fresh (B b n : Nat) (w : World) (hB : B ≤ b) (hbk : w.heap[b]? = some (.cells #[.pointer none, .slice none 0 0] 60 (0, 0))) (hBw : B ≤ w.heap.size) (hn : n ≤ 281474976710656) :
    Calls Tryd.prog 96 #[.pointer (some ⟨b, 0, none⟩), .int .i64 n] w fun e w' => e = .returned (.tuple #[]) ∧ (Lib.BuilderAt 60 5 B b (.pointer (some ⟨b, 0, none⟩)) [] w' ∧ Below B w w') := Any.Builder_Grow_fresh lays165 Builder_Extra_165 B b n w hB hbk hBw hn
/-- texts with a blank between each two -/
def tailJ (l : List (List UInt8)) : List UInt8 := l.flatMap (fun x => [32] ++ x)
def joinJ (l : List (List UInt8)) : List UInt8 := l.headD [] ++ tailJ l.tail
/-- a row of texts -/
def WRow (w : World) (b off : Nat) (l : List (List UInt8)) : Prop := ∀ i, i < l.length → w.cell? ⟨b, off + i, none⟩ = some (.string ⟨(l[i]?.getD []).toArray⟩)
theorem WRow.below {w w' : World} {b off : Nat} {l : List (List UInt8)} (h : WRow w b off l) (hb : Below w.heap.size w w') : WRow w' b off l := fun i hi => by
  rw [hb.cell (World.block_lt_of_cell? w _ (h i hi))]; exact h i hi
theorem tailJ_snoc (l : List (List UInt8)) (x : List UInt8) : tailJ (l ++ [x]) = tailJ l ++ [32] ++ x := by simp [tailJ]
theorem tailJ_nil : tailJ [] = [] := rfl
theorem sizeS (l : List UInt8) : (ByteArray.mk l.toArray).size = l.length := by show l.toArray.size = _; simp
theorem tailJ_len (l : List (List UInt8)) (h : ∀ x ∈ l, x.length ≤ 20) : (tailJ l).length ≤ 21 * l.length := by
  induction l with
  | nil => simp [tailJ]
  | cons x r ih =>
    have h1 := ih (fun y hy => h y (List.mem_cons_of_mem _ hy))
    have h2 := h x List.mem_cons_self
    simp [tailJ] at h1 ⊢
    omega
set_option maxHeartbeats 4000000 in
/-- the library's Join, with a blank, of one to six short texts -/
theorem join_any (b off c : Nat) (l : List (List UInt8)) (w : World) (h1 : 1 ≤ l.length) (h6 : l.length ≤ 6) (hc : l.length ≤ c) (hs : ∀ x ∈ l, x.length ≤ 20) (h : WRow w b off l) :
    Calls Tryd.prog 69 #[.slice (some ⟨b, off, none⟩) l.length c, .string ⟨#[32]⟩] w fun e w' => e = .returned (.string ⟨(joinJ l).toArray⟩) ∧ Below w.heap.size w w' := by
  have HW : Hid (WRow w b off l) := h
  have HS : Hid (∀ x ∈ l, x.length ≤ 20) := hs
  obtain ⟨x0, hx0⟩ : ∃ x, l[0]? = some x := ⟨l[0]'(by omega), by simp⟩
  have hc0 := h 0 (by omega)
  rw [hx0] at hc0
  simp only [Option.getD_some, Nat.add_zero] at hc0
  have hl0 : x0.length ≤ 20 := hs x0 (List.mem_of_getElem? hx0)
  have HJ : Hid (joinJ l = x0 ++ tailJ l.tail) := by
    show _ = _
    unfold joinJ
    rw [List.headD_eq_head?_getD, List.head?_eq_getElem?, hx0]; rfl
  clear h hs
  by_cases hn1 : l.length = 1
  · have HE : Hid (joinJ l = x0) := by
      show _ = _
      rw [HJ.out]
      have : l.tail = [] := List.eq_nil_of_length_eq_zero (by simp; omega)
      rw [this]; simp [tailJ]
    rw [hn1]
    go_enter Tryd.func69, Tryd.ntmps69
    go_wp2
    go_ret
    exact ⟨ret_str (by rw [HE.out]), Below.refl _ _⟩
  · obtain ⟨Q, hQ, hQ1, hQ2⟩ : ∃ Q, Int.tdiv 9223372036854775807 ((l.length : Int) - 1) = Q ∧ 1 < Q ∧ Q ≤ 9223372036854775807 := by
      refine ⟨_, rfl, ?_⟩
      have : l.length = 2 ∨ l.length = 3 ∨ l.length = 4 ∨ l.length = 5 ∨ l.length = 6 := by omega
      rcases this with h | h | h | h | h <;> rw [h] <;> decide
    go_enter Tryd.func69, Tryd.ntmps69
    go_wp2
    have HQ : Hid (Int.tdiv 9223372036854775807 ((l.length : Int) - 1) = Q) := hQ
    have HX0 : Hid (l[0]? = some x0) := hx0
    clear hQ hQ1 hQ2 hx0
    go_loopw [5, 41] (fun t5 t41 wr => ∃ (k T : Nat), t5 = .int .i64 (T : Int) ∧ t41 = .int .i64 (k : Int) ∧ k ≤ l.length ∧ T ≤ 6 + 20 * k ∧ wr = w) (fun _ t41 _ => l.length - (intOf t41).toNat)
    case atStart => exact ⟨0, l.length - 1, by congr 1; omega, rfl, by omega, by omega, rfl⟩
    case round =>
      obtain ⟨k, T, rfl, rfl, hk, hT, hw⟩ := hrel
      have hw' := hw.symm
      subst hw'
      by_cases hlt : k < l.length
      · have hck := HW.out k hlt
        obtain ⟨x, hx⟩ : ∃ x, l[k]? = some x := ⟨l[k], by simp [hlt]⟩
        rw [hx] at hck
        simp only [Option.getD_some] at hck
        have hxl : x.length ≤ 20 := HS.out x (List.mem_of_getElem? hx)
        clear hx
        go_wp2
        go_roundw
        case rel => exact ⟨k + 1, T + x.length, by congr 1, by go_num, by omega, by omega, by first | trivial | rfl⟩
        case measure => simp [intOf]; omega
      · obtain rfl : k = l.length := by omega
        have hbk := heap_alloc_new w (.cells #[.pointer none, .slice none 0 0] 60)
        have HBK : Hid (_) := hbk
        clear hbk
        go_wp2_with fail
        refine (Builder_Grow_fresh w.heap.size w.heap.size T _ (Nat.le_refl _) HBK.out (by simp) (by omega)).mono ?_
        rintro e w2 ⟨rfl, hI2, hb2⟩
        have B2 : Below w.heap.size w w2 := (below1 w _).trans hb2
        have HI2 : Hid (Lib.IsBuilderF 60 5 w.heap.size w.heap.size (Lib.byteCells []) w2) := .inr (Lib.BuilderAtF.of hI2)
        have hc2 : w2.cell? ⟨b, off, none⟩ = some (.string ⟨x0.toArray⟩) := by rw [B2.cell (World.block_lt_of_cell? w _ hc0)]; exact hc0
        clear hI2 hb2
        go_wp2_with fail
        refine (writeString_any w.heap.size w.heap.size (Lib.byteCells []) ⟨x0.toArray⟩ _ HI2.out (by rw [sizeS, Lib.byteCells_length]; simp; omega) B2.size).mono ?_
        rintro e w3 ⟨rfl, I3, b3, k3⟩
        have B3 : Below w.heap.size w w3 := B2.trans b3
        have HI3 : Hid (Lib.IsBuilderF 60 5 w.heap.size w.heap.size (Lib.byteCells (x0 ++ tailJ (l.tail.take 0))) w3) := by
          show _
          have e1 : x0 ++ tailJ (l.tail.take 0) = [] ++ x0 := by simp [tailJ]
          rw [e1, byteCells_app]
          exact .inr I3
        clear I3 b3 k3 hc2
        go_wp2
        go_loopw [65] (fun t65 wq => ∃ (k : Nat), t65 = .int .i64 (k : Int) ∧ k ≤ l.length - 1 ∧ Lib.IsBuilderF 60 5 w.heap.size w.heap.size (Lib.byteCells (x0 ++ tailJ (l.tail.take k))) wq ∧ Below w.heap.size w wq) (fun t65 _ => l.length - 1 - (intOf t65).toNat)
        case atStart => exact ⟨0, rfl, by omega, HI3.out, B3⟩
        case round =>
          obtain ⟨k, rfl, hk, hI, hB⟩ := hrel
          have HI : Hid (Lib.IsBuilderF 60 5 w.heap.size w.heap.size (Lib.byteCells (x0 ++ tailJ (l.tail.take k))) wr) := hI
          clear hI
          by_cases hlt : k < l.length - 1
          · have hck := HW.out (k + 1) (by omega)
            obtain ⟨x, hx⟩ : ∃ x, l[k + 1]? = some x := ⟨l[k + 1]'(by omega), by simp⟩
            rw [hx] at hck
            simp only [Option.getD_some] at hck
            have hxl : x.length ≤ 20 := HS.out x (List.mem_of_getElem? hx)
            have hck2 : wr.cell? ⟨b, off + 1 + k, none⟩ = some (.string ⟨x.toArray⟩) := by
              rw [hB.cell (p := ⟨b, off + 1 + k, none⟩) (World.block_lt_of_cell? w ⟨b, off + (k + 1), none⟩ hck)]
              rw [show off + 1 + k = off + (k + 1) by omega]; exact hck
            have HT2 : Hid (x0 ++ tailJ (l.tail.take (k + 1)) = (x0 ++ tailJ (l.tail.take k)) ++ [32] ++ x) := by
              show _ = _
              have e1 : l.tail.take (k + 1) = l.tail.take k ++ [x] := by
                rw [List.take_add_one, List.getElem?_tail, hx]; rfl
              rw [e1, tailJ_snoc]
              simp
            have hjl : (x0 ++ tailJ (l.tail.take k)).length ≤ 200 := by
              have := tailJ_len (l.tail.take k) (fun y hy => HS.out y (List.mem_of_mem_tail (List.mem_of_mem_take hy)))
              rw [List.length_take, List.length_tail] at this
              rw [List.length_append]
              omega
            have HJL : Hid (_) := hjl
            generalize x0 ++ tailJ (l.tail.take k) = acc at HI HT2 HJL hjl
            clear hx hck hjl
            go_wp2_with fail
            refine (writeString_any w.heap.size w.heap.size (Lib.byteCells acc) ⟨#[32]⟩ _ HI.out (by have := HJL.out; rw [Lib.byteCells_length]; simp [ByteArray.size]; omega) hB.size).mono ?_
            rintro e w4 ⟨rfl, I4, b4, k4⟩
            have B4 : Below w.heap.size w w4 := hB.trans b4
            have HI4 : Hid (Lib.IsBuilderF 60 5 w.heap.size w.heap.size (Lib.byteCells (acc ++ [32])) w4) := by
              show _
              rw [byteCells_app]
              exact .inr I4
            clear I4 b4 k4
            go_wp2_with fail
            refine (writeString_any w.heap.size w.heap.size (Lib.byteCells (acc ++ [32])) ⟨x.toArray⟩ _ HI4.out (by have := HJL.out; rw [Lib.byteCells_length, sizeS]; simp; omega) B4.size).mono ?_
            rintro e w5 ⟨rfl, I5, b5, k5⟩
            have B5 : Below w.heap.size w w5 := B4.trans b5
            have HI5 : Hid (Lib.IsBuilderF 60 5 w.heap.size w.heap.size (Lib.byteCells ((acc ++ [32]) ++ x)) w5) := by
              show _
              rw [byteCells_app (acc ++ [32])]
              exact .inr I5
            clear I5 b5 k5
            go_wp2
            go_roundw
            case rel => exact ⟨k + 1, by go_num, by omega, by rw [HT2.out]; exact HI5.out, B5⟩
            case measure => simp [intOf]; omega
          · obtain rfl : k = l.length - 1 := by omega
            have HE : Hid (joinJ l = x0 ++ tailJ (l.tail.take (l.length - 1))) := by
              show _ = _
              rw [HJ.out, ← List.length_tail, List.take_length]
            generalize x0 ++ tailJ (l.tail.take (l.length - 1)) = acc at HI HE
            go_wp2_with fail
            refine (string_any w.heap.size w.heap.size acc _ HI.out hB.size).mono ?_
            rintro e w6 ⟨rfl, I6, b6, k6⟩
            go_wp2
            go_ret
            exact ⟨ret_str (by rw [HE.out]), hB.trans b6⟩
end Go.Proofs.YtkdabjdobpdooaaDoor
