/- What the program's ModuleBytes answers, at every list of sections. -/
import Derived.Test.YtjbmkkoggocemaaSect3
import Derived.Test.YtjbmkkoggocemaaPutU
namespace Go.Proofs.Ytjbmkkoggocemaa
open Go.RowKit
set_option linter.unusedVariables false
set_option linter.unusedSimpArgs false

/-- the bytes ahead of all sections -/
def front : List UInt8 := [0, 97, 115, 109, 1, 0, 0, 0]
/-- the bytes of a section -/
def secB (x : Sec) : List UInt8 := by8 x.1 :: (encU 4 x.2.size ++ x.2.data.toList)
/-- the bytes of the first sections -/
def modTo (xs : List Sec) (k : Nat) : List UInt8 := front ++ (xs.take k).flatMap secB
def modP (xs : List Sec) : Option ByteArray := if goodB xs then some ⟨(modTo xs xs.length).toArray⟩ else none
theorem modTo_succ {xs : List Sec} {k : Nat} {i : Int} {s : ByteArray} (h : xs[k]? = some (i, s)) : modTo xs (k + 1) = modTo xs k ++ ([by8 i] ++ encU 4 s.size ++ s.data.toList) := by
  unfold modTo
  rw [List.take_add_one, h, List.flatMap_append]
  simp [secB]
theorem good_one {xs : List Sec} {k : Nat} {i : Int} {s : ByteArray} (hg : goodFrom 0 xs = true) (h : xs[k]? = some (i, s)) : 0 ≤ i ∧ i ≤ 11 ∧ s.size ≤ 200 := by
  have key : ∀ (last : Int) (ys : List Sec), goodFrom last ys = true → ∀ x ∈ ys, oneB x.1 x.2 = true := by
    intro last ys
    induction ys generalizing last with
    | nil => intro _ x hx; cases hx
    | cons y r ih =>
      intro h x hx
      simp [goodFrom] at h
      rcases List.mem_cons.1 hx with rfl | hx
      · exact h.1.1
      · exact ih _ h.2 x hx
  have := key 0 xs hg (i, s) (List.mem_of_getElem? h)
  unfold oneB at this
  simp at this
  have h1 := inB_yes this.1.1
  exact ⟨h1.1, h1.2, this.1.2⟩
theorem modTo_len {xs : List Sec} (hg : goodFrom 0 xs = true) (k : Nat) (hk : k ≤ xs.length) : (modTo xs k).length ≤ 8 + 206 * k := by
  induction k with
  | zero => simp [modTo, front]
  | succ k ih =>
    obtain ⟨⟨i, s⟩, hx⟩ : ∃ x, xs[k]? = some x := ⟨xs[k]'(by omega), by simp⟩
    rw [modTo_succ hx]
    have := ih (by omega)
    have h1 := encU_len_le 4 s.size
    have h2 := (good_one hg hx).2.2
    have h3 : s.data.toList.length = s.size := by simp
    simp at h3 ⊢
    omega
theorem strCells_l (s : ByteArray) : Lib.strCells s = Lib.byteCells s.data.toList := rfl
theorem byteCells_app (a b : List UInt8) : Lib.byteCells (a ++ b) = Lib.byteCells a ++ Lib.byteCells b := by simp [Lib.byteCells]

theorem builder_below {B b : Nat} {pre : List UInt8} {w w' : World} (h : Lib.IsBuilderF 76 5 B b (Lib.byteCells pre) w) (hb : Below w.heap.size w w') : Lib.IsBuilderF 76 5 B b (Lib.byteCells pre) w' :=
  builder_own B b pre w w' none h (grownBy_of_below hb none) (fun r e => by cases e)

set_option maxHeartbeats 4000000 in
set_option maxRecDepth 100000 in
/-- the program's ModuleBytes -/
theorem iMod_any (a : Option Addr) (c : Nat) (xs : List Sec) (w : World) (hl : xs.length ≤ 9223372036854775807) (h : SRow w a xs) :
    Calls Try.prog 29 #[.slice a xs.length c] w fun e w' => e = .returned (nameV (modP xs)) ∧ Below w.heap.size w w' := by
  have hgd := fun w h => iGood_any a c xs w hl h
  cases hg : goodB xs with
  | false =>
    rw [hg] at hgd
    have hv : modP xs = none := by unfold modP; rw [hg]; rfl
    rw [hv]
    go_enter Try.func29, Try.ntmps29
    go_wp2_with (go_at_call 26; refine (hgd _ h).mono ?_; rintro e w1 ⟨rfl, hb1⟩)
    go_ret2
    exact ⟨rfl, hb1⟩
  | true =>
    rw [hg] at hgd
    have hv : modP xs = some ⟨(modTo xs xs.length).toArray⟩ := by unfold modP; rw [hg]; rfl
    rw [hv]
    have hgf : goodFrom 0 xs = true ∧ xs.length ≤ 8 := by unfold goodB at hg; simp at hg; exact ⟨hg.2, hg.1⟩
    have HGF : Hid (goodFrom 0 xs = true) := hgf.1
    have hl8 := hgf.2
    have HGD : Hid (∀ w, SRow w a xs → Calls Try.prog 26 #[.slice a xs.length c] w fun e w' => e = .returned (.bool true) ∧ Below w.heap.size w w') := hgd
    have HML : Hid (∀ k, k ≤ xs.length → (modTo xs k).length ≤ 8 + 206 * k) := fun k hk => modTo_len hgf.1 k hk
    clear hgd hv hg hgf
    have H0 : Hid (modTo xs 0 = front) := by show _ = _; simp [modTo]
    by_cases hx : xs = []
    · subst hx
      go_enter Try.func29, Try.ntmps29
      go_wp2_with fail
      refine (HGD.out _ h).mono ?_
      rintro e w1 ⟨rfl, B1⟩
      have I1 := Lib.IsBuilderF.of (Lib.fresh_isBuilder 76 5 w1)
      have Ba : Below w.heap.size w (w1.alloc (.cells #[.pointer none, .slice none 0 0] 76)) := B1.alloc B1.size _
      go_wp2_with fail
      refine (writeString_any w1.heap.size w1.heap.size [] ⟨#[0, 97, 115, 109, 1, 0, 0, 0]⟩ _ I1 (by decide) (by simp)).mono ?_
      rintro e w2 ⟨rfl, I2, b2, k2⟩
      have B2 : Below w.heap.size w w2 := Ba.trans (b2.mono B1.size)
      go_wp2
      go_loopw [15] (fun t wr => t = .int .i64 0 ∧ wr = w2) (fun t _ => 0)
      case atStart => exact ⟨rfl, rfl⟩
      case round =>
        obtain ⟨rfl, rfl⟩ := hrel
        go_wp2_with fail
        refine (string_any w1.heap.size w1.heap.size front _ (.inr I2) (by have := b2.size; simp at this; omega)).mono ?_
        rintro e w3 ⟨rfl, I3, b3, k3⟩
        go_wp2
        go_ret2
        exact ⟨by show _ = Ending.returned (nameV (some ⟨(modTo [] 0).toArray⟩)); rw [H0.out]; rfl, B2.trans (b3.mono B1.size)⟩
    · obtain ⟨b, off, rfl, hat⟩ := h.at hx
      have HA : Hid (_) := hat
      clear hx hat
      go_enter Try.func29, Try.ntmps29
      go_wp2_with fail
      refine (HGD.out _ h).mono ?_
      rintro e w1 ⟨rfl, B1⟩
      have I1 := Lib.IsBuilderF.of (Lib.fresh_isBuilder 76 5 w1)
      have Ba : Below w.heap.size w (w1.alloc (.cells #[.pointer none, .slice none 0 0] 76)) := B1.alloc B1.size _
      go_wp2_with fail
      refine (writeString_any w1.heap.size w1.heap.size [] ⟨#[0, 97, 115, 109, 1, 0, 0, 0]⟩ _ I1 (by decide) (by simp)).mono ?_
      rintro e w2 ⟨rfl, I2, b2, k2⟩
      have B2 : Below w.heap.size w w2 := Ba.trans (b2.mono B1.size)
      go_wp2
      go_loopw [15] (fun t wr => ∃ k : Nat, t = .int .i64 k ∧ k ≤ xs.length ∧ Lib.IsBuilderF 76 5 w1.heap.size w1.heap.size (Lib.byteCells (modTo xs k)) wr ∧ Below w.heap.size w wr ∧ w1.heap.size + 1 ≤ wr.heap.size) (fun t _ => xs.length - (intOf t).toNat)
      case atStart => exact ⟨0, rfl, by omega, by rw [H0.out]; exact .inr I2, B2, by have := b2.size; simpa using this⟩
      case round =>
        obtain ⟨k, rfl, hk, hI, hB, hsz⟩ := hrel
        have HI : Hid (Lib.IsBuilderF 76 5 w1.heap.size w1.heap.size (Lib.byteCells (modTo xs k)) wr) := hI
        clear hI I1 Ba I2 b2 k2 B2
        by_cases hlt : k < xs.length
        · obtain ⟨i, s, c1, c2, hs, hbw, HX⟩ := HA.out wr hB k hlt
          have hbr : b < wr.heap.size := Nat.lt_of_lt_of_le hbw hB.size
          obtain ⟨hi0, hi11, hs200⟩ := good_one HGF.out HX.out
          have hmod : i % 256 = i := by omega
          have hBa : Below w.heap.size w (wr.alloc (.cells #[.int .i64 i, .string s] 31)) := hB.alloc hB.size _
          have hy : inB 0 4294967295 (s.size : Int) = true := by unfold inB; simp; omega
          have hml := HML.out k hk
          have HML2 : Hid ((modTo xs k).length ≤ 8 + 206 * k) := hml
          have hel := encU_len_le 4 (s.size : Int)
          have HEL : Hid ((encU 4 (s.size : Int)).length ≤ 5) := hel
          have HES : Hid ((ByteArray.mk (encU 4 (s.size : Int)).toArray).size ≤ 5) := by show (encU 4 (s.size : Int)).toArray.size ≤ 5; simpa using hel
          clear hml hel
          go_wp2_with fail
          refine (iPutU_yes _ _ hy).mono ?_
          rintro e w3 ⟨rfl, hb3⟩
          have I3 := builder_below (HI.out.alloc (.cells #[.int .i64 i, .string s] 31)) hb3
          have B3 := bstep hBa (Nat.le_refl _) hb3
          have O3 : w3.heap[wr.heap.size]? = some (.cells #[.int .i64 i, .string s] 31) := by
            rw [hb3.block _ (by simp)]
            exact heap_alloc_new wr _
          have hs3 : wr.heap.size + 1 ≤ w3.heap.size := by have := hb3.size; simpa using this
          have e0 : w3.cell? ⟨wr.heap.size, 0, none⟩ = some (.int .i64 i) := by rw [Lib.cell_of_heap O3]; rfl
          have HO3 : Hid (w3.heap[wr.heap.size]? = some (.cells #[.int .i64 i, .string s] 31)) := O3
          have HI3 : Hid (_) := I3
          clear O3 I3
          have hcl : (Lib.byteCells (modTo xs k)).length ≤ 2000 := by rw [Lib.byteCells_length]; have := HML2.out; omega
          go_wp2_with fail
          refine (writeByte_any w1.heap.size w1.heap.size (Lib.byteCells (modTo xs k)) _ _ HI3.out (by omega) (by omega)).mono ?_
          rintro e w4 ⟨rfl, I4, b4, k4⟩
          have HI4 : Hid (_) := I4
          have O4 := k4 _ _ HO3.out (by intro e; injection e; omega) (by intro c fz e; cases e)
          have B4 : Below w.heap.size w w4 := B3.trans (b4.mono B1.size)
          have HO4 : Hid (w4.heap[wr.heap.size]? = some (.cells #[.int .i64 i, .string s] 31)) := O4
          have hs4 := b4.size
          clear I4 O4 k4
          go_wp2_with fail
          refine (writeString_any w1.heap.size w1.heap.size _ ⟨(encU 4 (s.size : Int)).toArray⟩ _ (.inr HI4.out) (by have := HES.out; rw [List.length_append]; simp only [List.length_cons, List.length_nil]; omega) (by omega)).mono ?_
          rintro e w5 ⟨rfl, I5, b5, k5⟩
          have HI5 : Hid (_) := I5
          have O5 := k5 _ _ HO4.out (by intro e; injection e; omega) (by intro c fz e; cases e)
          have B5 : Below w.heap.size w w5 := B4.trans (b5.mono B1.size)
          have HO5 : Hid (w5.heap[wr.heap.size]? = some (.cells #[.int .i64 i, .string s] 31)) := O5
          have e5 : w5.cell? ⟨wr.heap.size, 1, none⟩ = some (.string s) := by rw [Lib.cell_of_heap O5]; rfl
          have hs5 := b5.size
          clear I5 O5 k5
          go_wp2_with fail
          refine (writeString_any w1.heap.size w1.heap.size _ s _ (.inr HI5.out) (by have := HES.out; rw [List.length_append, List.length_append, Lib.strCells_length]; simp only [List.length_cons, List.length_nil]; omega) (by omega)).mono ?_
          rintro e w6 ⟨rfl, I6, b6, k6⟩
          have HI6 : Hid (_) := I6
          have B6 : Below w.heap.size w w6 := B5.trans (b6.mono B1.size)
          have hs6 := b6.size
          clear I6 k6
          go_wp2
          go_roundw
          case rel =>
            refine ⟨k + 1, by go_num, by omega, .inr ?_, B6, by omega⟩
            have hcells : Lib.byteCells (modTo xs (k + 1)) = Lib.byteCells (modTo xs k) ++ [.int .u8 i] ++ Lib.strCells ⟨(encU 4 (s.size : Int)).toArray⟩ ++ Lib.strCells s := by
              rw [modTo_succ HX.out, byteCells_app, byteCells_app, byteCells_app, strCells_l, strCells_l]
              have h8 : Lib.byteCells [by8 i] = [.int .u8 i] := by simp [Lib.byteCells, by8_toNat i (by omega) (by omega)]
              rw [h8]
              simp [List.append_assoc]
            rw [hcells]
            exact HI6.out
          case measure => simp [intOf]; omega
        · obtain rfl : k = xs.length := by omega
          go_wp2_with fail
          refine (string_any w1.heap.size w1.heap.size (modTo xs xs.length) _ HI.out (by omega)).mono ?_
          rintro e w3 ⟨rfl, I3, b3, k3⟩
          go_wp2
          go_ret2
          exact ⟨rfl, hB.trans (b3.mono B1.size)⟩
end Go.Proofs.Ytjbmkkoggocemaa
