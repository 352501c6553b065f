/- The library's Repeat, at the one list that the program hands it. -/
import Derived.Shelf.Bits.Mul64
import Derived.Laws.CopyOwn
import Derived.Deep.RegionHeldLaw
import Derived.Test.YteihecnmnajahaaGreatDoorK1
namespace Go.Proofs.YteihecnmnajahaaGreatDoor
open Go.RowKit Go.Shelf Go.Lib
set_option linter.unusedVariables false
set_option linter.unusedSimpArgs false
set_option maxRecDepth 100000

def lays212_ren : Go.Shelf.Ren := ⟨fun | 212 => 111 | 263 => 131 | 264 => 132 | n => n, fun | 46 => 137 | 51 => 170 | 146 => 171 | 53 => 173 | 148 => 174 | n => n, fun | n => n⟩
theorem lays212 : Go.Proofs.Lays.n212 Tryz.prog lays212_ren := {
  mixed := by kernel_rfl
  f212 := Tryz.func111.trans (congrArg some (by kernel_rfl))
  f263 := Tryz.func131.trans (congrArg some (by kernel_rfl))
  f264 := Tryz.func132.trans (congrArg some (by kernel_rfl))
  t46 := Tryz.underlying137
  a46 := Tryz.isAgg137
  z46 := Tryz.sizeOf137
  v46 := Tryz.zeroValue137
  t51 := Tryz.underlying170
  a51 := Tryz.isAgg170
  z51 := Tryz.sizeOf170
  v51 := Tryz.zeroValue170
  t53 := Tryz.underlying173
  a53 := Tryz.isAgg173
  z53 := Tryz.sizeOf173
  v53 := Tryz.zeroValue173
  t146 := Tryz.underlying171
  a146 := Tryz.isAgg171
  z146 := Tryz.sizeOf171
  v146 := Tryz.zeroValue171
  t148 := Tryz.underlying174
  a148 := Tryz.isAgg174
  z148 := Tryz.sizeOf174
  v148 := Tryz.zeroValue174 }
theorem bits_Mul (x y : Nat) (hx : x < 18446744073709551616) (hy : y < 18446744073709551616) (w : World) :
    Calls Tryz.prog 111 #[.int .u64 x, .int .u64 y] w fun e w' => e = .returned (.tuple #[.int .u64 ((x * y / 18446744073709551616 : Nat) : Int), .int .u64 ((x * y % 18446744073709551616 : Nat) : Int)]) ∧ w' = w := Any.bits_Mul lays212 x y hx hy w

theorem mul_one (n : Nat) (hn : n ≤ 4000) (w : World) : Calls Tryz.prog 111 #[.int .u64 1, .int .u64 n] w fun e w' => e = .returned (.tuple #[.int .u64 0, .int .u64 n]) ∧ w' = w := by
  have := bits_Mul 1 n (by omega) (by omega) w
  have e1 : 1 * n / 18446744073709551616 = 0 := by omega
  have e2 : 1 * n % 18446744073709551616 = n := by omega
  rw [e1, e2] at this
  exact this
/-- so many times -1, and then noughts -/
def fillC (n m : Nat) : List Value := ints (List.replicate m (-1) ++ List.replicate (n - m) 0)
theorem fillC_length (n m : Nat) (h : m ≤ n) : (fillC n m).length = n := by simp [fillC, ints]; omega
theorem fillC_splice (n m k : Nat) (h : m + k ≤ n) : splice (fillC n m) m (ints (List.replicate k (-1))) = fillC n (m + k) := by
  unfold splice fillC
  have e1 : (ints (List.replicate m (-1 : Int) ++ List.replicate (n - m) 0)).take m = ints (List.replicate m (-1)) := by simp [ints]
  have e2 : (ints (List.replicate m (-1 : Int) ++ List.replicate (n - m) 0)).drop (m + (ints (List.replicate k (-1 : Int))).length) = ints (List.replicate (n - (m + k)) 0) := by
    have e3 : m + (ints (List.replicate k (-1 : Int))).length = m + k := by simp [ints]
    rw [e3]
    simp only [ints, List.map_append, List.map_replicate]
    rw [List.drop_append, List.length_replicate, List.drop_of_length_le (by simp), List.nil_append, List.drop_replicate]
    congr 1; omega
  rw [e1, e2]
  simp only [ints, List.map_append, List.map_replicate]
  rw [← List.append_assoc, List.replicate_append_replicate]
theorem fillC_at (n m j : Nat) (h : j < m) : (fillC n m)[j]? = some (.int .i64 (-1)) := by
  unfold fillC ints
  rw [List.map_append, List.map_replicate, List.getElem?_append_left (by simpa using h), List.getElem?_replicate, if_pos h]
theorem full_heap {w : World} {B g n : Nat} {xs : List Value} (h : w.ownsRow B 3 1 (.slice (some ⟨g, 0, none⟩) n n) n xs) : w.heap[g]? = some (.cells xs.toArray 3 (0, 0)) := by
  rcases h.2 with ⟨h0, _⟩ | ⟨g', cap, cur, he, hB, hg, hn, hm, hs, htk⟩
  · cases h0
  · injection he with e1 e2 e3
    injection e1 with e1
    injection e1 with e1
    subst e1; subst e3
    have : cur.toList = xs := by rw [← htk, List.take_of_length_le (by simp [hs])]
    rw [hg, ← this]
theorem heap_full {w : World} {B g n : Nat} {xs : List Value} (h : w.heap[g]? = some (.cells xs.toArray 3 (0, 0))) (hl : xs.length = n) (hB : B ≤ g) (hn : n ≤ 4000) : w.ownsRow B 3 1 (.slice (some ⟨g, 0, none⟩) n n) n xs :=
  ⟨by rw [hl, Nat.mul_one], .inr ⟨g, n, xs.toArray, rfl, hB, h, Nat.le_refl _, by unfold maxLen; omega, by simp [hl], by rw [List.take_of_length_le (by simp [hl])]⟩⟩
theorem heap_cell {w : World} {g : Nat} {cur : List Value} {t : TypeId} (h : w.heap[g]? = some (.cells cur.toArray t (0, 0))) {j : Nat} {v : Value} (hj : cur[j]? = some v) : w.cell? ⟨g, j, none⟩ = some v := by
  rw [Lib.cell_of_heap h]; simpa using hj
set_option maxHeartbeats 800000 in
theorem repeat_any (g n : Nat) (w : World) (h1 : 1 ≤ n) (h2 : n ≤ 4000) (hc : w.cell? ⟨g, 0, none⟩ = some (.int .i64 (-1))) :
    Calls Tryz.prog 80 #[.slice (some ⟨g, 0, none⟩) 1 1, .int .i64 n] w fun e w' => e = .returned (.slice (some ⟨w.heap.size, 0, none⟩) n n) ∧ w'.ownsRow w.heap.size 3 1 (.slice (some ⟨w.heap.size, 0, none⟩) n n) n (ints (List.replicate n (-1))) ∧ Below w.heap.size w w' := by
  obtain ⟨i0, hi0, hz0, hz1, hz2⟩ := info_parts info3
  have HM := hid (fun W => mul_one n h2 W)
  have hsz : (Tryz.prog.info? 3).map (·.size) = some 1 := by rw [hi0]; simp [hz1]
  have HSZ := hid hsz
  clear hsz
  go_enter Tryz.func80, Tryz.ntmps80
  go_wp2_with (first | (go_at_call 111; refine (HM.out _).mono ?_; rintro e w' ⟨rfl, hw'⟩; subst w') | (at_make; refine wpList_make_full _ rfl _ _ 35 rfl w.heap.size 3 i0 (.int .i64 0) 1 Tryz.underlying35 hi0 hz0 hz1 .i64 .i64 _ _ n rfl rfl rfl rfl ?c1 ?c2 ?c3 ?_))
  case c1 => rw [hz2]; omega
  case c2 => unfold maxLen; omega
  case c3 => omega
  intro w1 hown0 hgrow0
  have hB0 : Below w.heap.size w w1 := (Below.refl _ w).grown hgrow0 (Nat.le_refl _) (fun k hk => by cases hk)
  have HH0 : Hid (w1.heap[w.heap.size]? = some (.cells (fillC n 0).toArray 3 (0, 0))) := by
    have := full_heap hown0
    rw [made_ints] at this
    show _ = _
    simpa [fillC] using this
  have hc1 : w1.cell? ⟨g, 0, none⟩ = some (.int .i64 (-1)) := by rw [hB0.cell (p := ⟨g, 0, none⟩) (World.block_lt_of_cell? w _ hc)]; exact hc
  have HC1 := hid hc1
  obtain ⟨c1, hc1e, hc1l⟩ : ∃ c1 : List Value, c1 = ints (List.replicate 1 (-1)) ∧ c1.length = 1 := ⟨_, rfl, by simp [ints]⟩
  have HE1 := hid hc1e
  clear hown0 hgrow0 hc1 hc1e
  have hmin : (1 : Nat) = Nat.min 1 n := by show 1 = min 1 n; omega
  have HMIN := hid hmin
  clear hmin
  have HD1 : Hid (∀ j v, c1[j]? = some v → w1.cell? ((⟨g, 0, none⟩ : Addr).add j) = some v) := by
    intro j v hj
    rw [HE1.out] at hj
    match j, hj with
    | 0, hj => simp [ints] at hj; subst hj; rw [addr_add]; exact HC1.out
  have HD2 : Hid (0 + c1.length ≤ (fillC n 0).length) := by show _ ≤ _; rw [hc1l, fillC_length n 0 (by omega)]; omega
  have HD3 : Hid (∀ v ∈ c1, v.oneCell' = true) := by show ∀ v ∈ c1, _; rw [HE1.out]; simp [ints, Value.oneCell']
  have HN : Hid (c1.length = Nat.min 1 n) := by show _ = _; rw [hc1l]; exact HMIN.out
  go_wp2_with (refine wpList_copy_splice rfl _ _ 35 35 rfl 3 Tryz.underlying35 HSZ.out _ _ _ _ _ _ rfl rfl w.heap.size 0 (fillC n 0) 3 HH0.out c1 HN.out (fun _ => ⟨rfl, _, rfl, HD1.out⟩) HD2.out HD3.out w.heap.size w hB0 (Nat.le_refl _) ?_)
  intro w2 hh2 hb2
  have HH2 : Hid (w2.heap[w.heap.size]? = some (.cells (fillC n 1).toArray 3 (0, 0))) := by
    have := hh2.out
    rw [HE1.out, fillC_splice n 0 1 (by omega)] at this
    exact this
  have HB2 := hid hb2
  clear hh2 hb2 HH0 hB0 HC1 HE1
  go_wp2
  go_loopw [8] (fun t8 wr => ∃ m : Nat, t8 = .int .i64 m ∧ 1 ≤ m ∧ m ≤ n ∧ wr.heap[w.heap.size]? = some (.cells (fillC n m).toArray 3 (0, 0)) ∧ Below w.heap.size w wr) (fun t8 _ => n - (intOf t8).toNat)
  case atStart => exact ⟨1, rfl, by omega, h1, HH2.out, HB2.out⟩
  case round =>
    obtain ⟨m, rfl, hm1, hmn, hh, hB⟩ := hrel
    have HH := hid hh
    clear hh HH2 HB2
    by_cases hlt : m < n
    · obtain ⟨q, hq⟩ : ∃ q, Nat.min m (n - m) = q := ⟨_, rfl⟩
      have hq1 : 1 ≤ q ∧ m + q ≤ n := by rw [← hq]; show 1 ≤ min m (n - m) ∧ m + min m (n - m) ≤ n; omega
      obtain ⟨cs, hcs, hcl⟩ : ∃ cs : List Value, cs = ints (List.replicate q (-1)) ∧ cs.length = q := ⟨_, rfl, by simp [ints]⟩
      have HCS := hid (And.intro hcs (And.intro hcl hq))
      have hne : ¬ n = m := by omega
      clear hcs hcl hq
      have HD1 : Hid (∀ j v, cs[j]? = some v → (wr.drew).cell? ((⟨w.heap.size, 0, none⟩ : Addr).add j) = some v) := by
        intro j v hj
        have hjl : j < q := by have := (List.getElem?_eq_some_iff.1 hj).1; rw [HCS.out.2.1] at this; exact this
        have hjm : j < m := by have h3 := HCS.out.2.2; have : q ≤ m := by rw [← h3]; exact Nat.min_le_left _ _
                               omega
        rw [HCS.out.1] at hj
        simp [ints, hjl] at hj
        subst hj
        rw [addr_add, Nat.zero_add]
        exact heap_cell HH.out (fillC_at n m j hjm)
      have HD2 : Hid (m + cs.length ≤ (fillC n m).length) := by show _ ≤ _; rw [HCS.out.2.1, fillC_length n m (by omega)]; omega
      have HD3 : Hid (∀ v ∈ cs, v.oneCell' = true) := by show ∀ v ∈ cs, _; rw [HCS.out.1]; simp [ints, Value.oneCell']
      have HN : Hid (cs.length = Nat.min m (n - m)) := by show _ = _; rw [HCS.out.2.1, HCS.out.2.2]
      have HHD : Hid ((wr.drew).heap[w.heap.size]? = some (.cells (fillC n m).toArray 3 (0, 0))) := HH.out
      have HBD := hid hB.drew
      go_wp2
      go_region_held_law (fun _ => True) (trivial) ((refine step_copy_splice (by rfl) _ _ 35 35 (by rfl) 3 Tryz.underlying35 HSZ.out _ _ _ _ _ _ (by rfl) (by rfl) w.heap.size m (fillC n m) 3 HHD.out cs HN.out (fun _ => ⟨rfl, _, rfl, HD1.out⟩) HD2.out HD3.out w.heap.size w HBD.out (Nat.le_refl _) ?_; intro w4 hh4 hb4; simp only [List.getElem_toArray, List.getElem_cons_succ, List.getElem_cons_zero]))
      have hcl : cs.length = q := HCS.out.2.1
      have hwr : IntKind.i64.wrap ((m : Int) + (q : Int)) = ((m + q : Nat) : Int) := by rw [IntKind.wrap_i64]; omega
      have HHE : Hid (w4.heap[w.heap.size]? = some (.cells (fillC n (m + q)).toArray 3 (0, 0))) := by
        have := hh4.out
        rw [HCS.out.1, fillC_splice n m q hq1.2] at this
        exact this
      have HB4 := hid hb4
      clear hh4 hb4
      go_wp2
      go_roundw
      case rel => exact ⟨m + q, by rw [hcl, hwr], by omega, by omega, HHE.out, HB4.out⟩
      case measure =>
        rw [hcl, hwr]
        simp [intOf]; omega
    · obtain rfl : m = n := by omega
      go_wp2
      go_ret
      refine ⟨rfl, ?_, hB⟩
      have := heap_full (B := w.heap.size) HH.out (fillC_length m m (Nat.le_refl _)) (Nat.le_refl _) h2
      simpa [fillC] using this
end Go.Proofs.YteihecnmnajahaaGreatDoor
