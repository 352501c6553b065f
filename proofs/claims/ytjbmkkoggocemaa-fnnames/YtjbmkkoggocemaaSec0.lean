/- What the model's draws of a section answer, whatever the bytes are. -/
import Derived.Test.YtjbmkkoggocemaaPicks
import Derived.Test.YtjbmkkoggocemaaLen
import Derived.Deep.RegionHeld
namespace Go.Proofs.Ytjbmkkoggocemaa
open Go.RowKit
set_option linter.unusedVariables false
set_option linter.unusedSimpArgs false

theorem grownBy_mix {a b c : World} {B : Nat} {row : Option Nat} (h : a.grownBy b (some B)) (k : b.grownBy c row) (hr : ∀ r, row = some r → a.heap.size ≤ r) : a.grownBy c (some B) :=
  ⟨k.os.trans h.os, k.tape.trans h.tape, k.output.trans h.output, Nat.le_trans h.size k.size, fun i hi hne => (k.block i (Nat.lt_of_lt_of_le hi h.size) (fun e => by have := hr i e.symm; omega)).trans (h.block i hi hne)⟩

/-- one of some texts -/
theorem of_any (n0 B K g c : Nat) (ss : List ByteArray) (w : World) (h : Cur w n0 B K) (hK : K ≤ 900000) (hn : 1 ≤ ss.length) (hm : ss.length ≤ 50) (hne : g ≠ B)
    (hc : ∀ i, i < ss.length → ∃ s, w.cell? ⟨g, 0 + i, none⟩ = some (.string s) ∧ s.size ≤ 10) :
    Calls Try.prog 48 #[.pointer (some ⟨B, 0, none⟩), .slice (some ⟨g, 0, none⟩) ss.length c] w fun e w' => ∃ s, e = .returned (.string s) ∧ s.size ≤ 10 ∧ Cur w' n0 B (K + 2) ∧ w.grownBy w' (some B) := by
  have HC : Hid (∀ i, i < ss.length → ∃ s, w.cell? ⟨g, 0 + i, none⟩ = some (.string s) ∧ s.size ≤ 10) := hc
  clear hc
  go_enter Try.func48, Try.ntmps48
  go_wp2_with fail
  refine (pick_any n0 B K _ _ h hK (by omega) (by omega)).mono ?_
  rintro e w1 ⟨x, rfl, hx, hc1, hg1⟩
  obtain ⟨j, rfl⟩ := Int.eq_ofNat_of_zero_le hx.1
  obtain ⟨s, hs, hsz⟩ := HC.out j (by omega)
  have hy : w1.cell? ⟨g, j, none⟩ = some (.string s) := by
    have := hg1.cell hs (fun e => hne (by simpa using e))
    simpa using this
  have hjl : j < ss.length := by omega
  go_wp2
  go_ret
  exact ⟨_, rfl, hsz, hc1, hg1⟩

/-- a section in a block of its own -/
def Box (w : World) (g : Nat) (id : Int) (s : ByteArray) : Prop := w.heap[g]? = some (.cells #[.int .i64 id, .string s] 31)
theorem Box.lt {w : World} {g : Nat} {id : Int} {s : ByteArray} (h : Box w g id s) : g < w.heap.size := (Array.getElem?_eq_some_iff.1 h).1
theorem Box.grown {w w' : World} {g : Nat} {id : Int} {s : ByteArray} {row : Option Nat} (h : Box w g id s) (hg : w.grownBy w' row) (hne : some g ≠ row) : Box w' g id s := (hg.block g h.lt hne).trans h
theorem Box.facts {w : World} {g : Nat} {id : Int} {s : ByteArray} (h : Box w g id s) : w.cell? ⟨g, 0, none⟩ = some (.int .i64 id) ∧ w.cell? ⟨g, 1, none⟩ = some (.string s) ∧ w.frozen? ⟨g, 0, none⟩ = false ∧ w.frozen? ⟨g, 1, none⟩ = false :=
  ⟨by rw [Lib.cell_of_heap h]; rfl, by rw [Lib.cell_of_heap h]; rfl, Lib.frozen_of_heap h 0, Lib.frozen_of_heap h 1⟩
theorem Box.set {w : World} {g : Nat} {id : Int} {s : ByteArray} (h : Box w g id s) (s' : ByteArray) : Box (w.setCell ⟨g, 1, none⟩ (.string s')) g id s' := by
  have := heap_setCell_same w g 1 _ 31 (.string s') h
  simpa [Box] using this
theorem Box.new (w : World) (id : Int) (s : ByteArray) : Box (w.alloc (.cells #[.int .i64 id, .string s] 31)) w.heap.size id s := heap_alloc_new w _
theorem grownBy_set' (w : World) (g j : Nat) (v : Value) : w.grownBy (w.setCell ⟨g, j, none⟩ v) (some g) := grownBy_set w g j v

end Go.Proofs.Ytjbmkkoggocemaa
