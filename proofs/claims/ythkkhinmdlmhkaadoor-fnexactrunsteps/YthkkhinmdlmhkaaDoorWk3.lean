/- What the program makes of a step that opens something, or ends it, while it goes through code. -/
import Derived.Test.YthkkhinmdlmhkaaDoorWk2
namespace Go.Proofs.YthkkhinmdlmhkaaDoor
open Go.RowKit
set_option linter.unusedVariables false
set_option linter.unusedSimpArgs false
set_option maxRecDepth 100000

theorem info145 : (Tryd.prog.info? 108).map (fun i => (i.zero, i.size, i.bytes)) = some (some (.agg #[.int .i64 0, .bool false]), 2, 16) := by kernel_rfl

set_option maxHeartbeats 4000000 in
/-- the program's lead: one more is open -/
theorem lead_push (B nb : Nat) (ov : Value) (h : Int) (d : Bool) (hv rv : Value) (o : List Frm) (hs : List Int) (rs : List Bool) (w : World) (k : WS B w nb ov h d hv rv o hs rs) (h0 : 0 < o.length) (h9 : o.length ≤ 9) (op : Int) (hop : op = 15 ∨ op = 16 ∨ op = 17) :
    Calls Tryd.prog 92 #[.pointer (some ⟨nb, 0, none⟩), .int .i64 op] w fun e w' => e = .returned .nilIface ∧ (∃ ov', WS B w' nb ov' h d hv rv (o ++ [(h, d)]) hs rs) ∧ Below B w w' := by
  obtain ⟨i0, hi0, hz0, hz1, hz2⟩ := info_parts info145
  have hi := innermost_any B nb ov h d hv rv o hs rs w k h0 h9
  have hlow := k.low
  have hltw := k.lt
  obtain ⟨oa, oc, hov⟩ : ∃ a c, ov = .slice a o.length c := by
    rcases k.opn.2 with ⟨rfl, h0⟩ | ⟨g, cap, cur, rfl, _⟩
    · rw [h0]; exact ⟨none, 0, rfl⟩
    · exact ⟨_, cap, rfl⟩
  have HF : Hid (∀ W, Below w.heap.size w W → (W.cell? ⟨nb, 0, none⟩ = some ov ∧ W.cell? ⟨nb, 1, none⟩ = some (.int .i64 h) ∧ W.cell? ⟨nb, 2, none⟩ = some (.bool d) ∧ nb < W.heap.size ∧ W.ownsRow B 108 2 ov o.length (frames o)) ∧ Hid (WS B W nb ov h d hv rv o hs rs ∧ Below B w W)) := by
    intro W hb
    have k1 := k.heap hb
    exact ⟨⟨k1.cells.1, k1.cells.2.1, k1.cells.2.2.1, k1.lt, k1.opn⟩, ⟨k1, hb.mono (by omega)⟩⟩
  generalize hz : inn o = z at hi
  obtain ⟨b0, d0⟩ := z
  simp only [] at hi
  have HI : Hid (Calls Tryd.prog 93 #[.pointer (some ⟨nb, 0, none⟩)] w fun e w' => e = .returned (.agg #[.int .i64 b0, .bool d0]) ∧ Below w.heap.size w w') := hi
  clear k hi hz
  subst hov
  rcases hop with rfl | rfl | rfl
  all_goals
    go_enter Tryd.func92, Tryd.ntmps92
    go_wp2_with fail
    refine HI.out.mono ?_
    rintro e w1 ⟨rfl, hb1⟩
    obtain ⟨⟨n0, n1, n2, hlt, hown⟩, HW⟩ := HF.out w1 hb1
    have hlow1 : B ≤ w1.heap.size := by omega
    have e1 := World.new_ne w1 ⟨nb, 0, none⟩ n0
    have e1' : ¬ nb = w1.heap.size := fun e => e1 e.symm
    have HC : Hid (∀ o1 o2 w2, ((w1.alloc o1).alloc o2).drew.grownBy w2 (Value.slice oa o.length oc).ownBlock → w2.cell? ⟨nb, 0, none⟩ = some (.slice oa o.length oc) ∧ w2.frozen? ⟨nb, 0, none⟩ = false) := by
      intro o1 o2 w2 hg
      have hn := HW.out.1.heap ((below2 w1 o1 o2).drew)
      have hb : w2.heap[nb]? = some (.cells #[.slice oa o.length oc, .int .i64 h, .bool d, hv, rv] 88 (0, 0)) := by
        rw [hg.block nb hn.lt (fun e => HW.out.1.a1 e.symm)]; exact hn.blk
      exact ⟨by rw [cell_of_row w2 nb _ _ 88 (0, 0) hb]; rfl, frozen_of_row w2 nb 0 _ 88 hb⟩
    clear hb1 hltw hlow
    go_wp2
    go_region_law
      ((refine step_append_lies _ (by rfl) _ _ _ (by rfl) B 108 i0 _ 2 16 Tryd.underlying86 hi0 hz0 hz1 hz2 rfl (by omega) _ _ _ (by rfl) (((hown.alloc _).alloc _).drew)
          ⟨w1.heap.size + 1, 0, none⟩ 1 1 [.int .i64 h, .bool d] (by rfl) (by rfl) (news_two w1 _ #[.int .i64 h, .bool d] 108) (by simp [Value.oneCell'])
          (by omega) (by unfold maxLen; omega) (by omega) (by simp; omega) (w1.heap.size + 1 + 1) (by simp) ?_; intro g cap w2 hown1 hgrow hat hlt1; obtain ⟨cn, fn⟩ := HC.out _ _ _ hgrow))
    all_goals
      have HP := HW.out.1.pushO (h, d) ((below2 w1 _ _).drew) hown1 hgrow (by rcases hat with h | h; exact .inl h; exact .inr (by omega))
      have HPP : Hid (_) := HP
      clear HP hown1 hgrow hat
      go_wp2
      go_ret
      exact ⟨rfl, ⟨_, HPP.out.1⟩, HW.out.2.trans HPP.out.2⟩
end Go.Proofs.YthkkhinmdlmhkaaDoor
