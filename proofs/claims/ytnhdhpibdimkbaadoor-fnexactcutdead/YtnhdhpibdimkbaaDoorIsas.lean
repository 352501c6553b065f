/- What errors.Is tells of a fault of the program and of a sentinel of hers. -/
import Derived.Test.YtnhdhpibdimkbaaDoorWk1
import Derived.LaidEql
import Derived.Stop.Asserts
import Derived.RowKitTokens
namespace Go.Proofs.YtnhdhpibdimkbaaDoor
open Go.RowKit Go.Extern.Stop Go.Stop Go.Extern
set_option linter.unusedVariables false
set_option linter.unusedSimpArgs false
set_option maxRecDepth 100000

theorem isTypeOf (v : Value) (w : World) : (Extern.ReflectliteType.typeOf #[.iface 211 v]).run Tryd.prog w = .ok (.iface 189 (.agg #[.pointer (some ⟨10, 211, none⟩)])) w := by kernel_rfl
theorem isComparable (w : World) : ((Extern.ReflectliteType.method fun t => do Go.Extern.Rtype.noPackHeld "Comparable" t; (fun a => Value.bool a.comparable) <$> typeInfo t) #[.agg #[.pointer (some ⟨10, 211, none⟩)]]).run Tryd.prog w = .ok (.bool true) w := by kernel_rfl
theorem isMethodComparable (v : Value) (w : World) : (Go.method 341 189 v "Comparable").run Tryd.prog w = .ok (192, v) w := by kernel_rfl
theorem isComp : (Tryd.prog.info? 211).map (·.comparable) = some true := by kernel_rfl
theorem isSize : (Tryd.prog.info? 229).map (·.size) = some 1 := by kernel_rfl
theorem noIsE (v : Value) (xT : TypeId) (w : World) : (Instr.typeAssert (.iface 211 v) xT 191 true).run Tryd.prog w = .ok (.tuple #[.nilIface, .bool false]) w := run_typeAssert_lacksB Tryd.underlying191 (by kernel_rfl) (by kernel_rfl) v xT w
theorem noUnwrapE (v : Value) (xT : TypeId) (w : World) : (Instr.typeAssert (.iface 211 v) xT 194 true).run Tryd.prog w = .ok (.tuple #[.nilIface, .bool false]) w := run_typeAssert_lacksB Tryd.underlying194 (by kernel_rfl) (by kernel_rfl) v xT w
theorem noUnwrapsE (v : Value) (xT : TypeId) (w : World) : (Instr.typeAssert (.iface 211 v) xT 195 true).run Tryd.prog w = .ok (.tuple #[.nilIface, .bool false]) w := run_typeAssert_lacksB Tryd.underlying195 (by kernel_rfl) (by kernel_rfl) v xT w
theorem noIsW (v : Value) (xT : TypeId) (w : World) : (Instr.typeAssert (.iface 143 v) xT 191 true).run Tryd.prog w = .ok (.tuple #[.nilIface, .bool false]) w := run_typeAssert_lacksB Tryd.underlying191 (by kernel_rfl) (by kernel_rfl) v xT w
theorem hasUnwrapW (v : Value) (xT : TypeId) (w : World) : (Instr.typeAssert (.iface 143 v) xT 194 true).run Tryd.prog w = .ok (.tuple #[.iface 143 v, .bool true]) w := run_typeAssert_hasB Tryd.underlying194 (by kernel_rfl) v xT w
theorem methodUnwrap (a b : Value) (w : World) : (Go.method 341 143 (.agg #[a, b]) "Unwrap").run Tryd.prog w = .ok (186, .agg #[a, b]) w := by kernel_rfl

abbrev faultV (S : Nat → Addr) (c : Nat) (n : Int) : Value := .iface 143 (.agg #[errV S c, .int .i64 n])

theorem is_nil (b : Addr) (w : World) : Calls Tryd.prog 128 #[.nilIface, .iface 211 (.pointer (some b))] w fun e w' => e = .returned (.bool false) ∧ w' = w := by
  have hn := run_eql_iface_nil_left (P := Tryd.prog) w 211 (.pointer (some b)) Tryd.underlying71
  go_enter Tryd.func128, Tryd.ntmps128
  go_wp2
  go_ret
  exact ⟨rfl, rfl⟩

set_option maxHeartbeats 4000000 in
theorem is_same_raw (a : Addr) (n : Int) (w : World) :
    Calls Tryd.prog 128 #[.iface 143 (.agg #[.iface 211 (.pointer (some a)), .int .i64 n]), .iface 211 (.pointer (some a))] w fun e w' => e = .returned (.bool true) ∧ w' = w.alloc (.cells #[.iface 211 (.pointer (some a)), .int .i64 n] 143) := by
  obtain ⟨i, hi, hcmp⟩ := Option.map_eq_some_iff.1 isComp
  obtain ⟨j, hj, hjs⟩ := Option.map_eq_some_iff.1 isSize
  have h8 := @run_callFunc_extern Tryd.prog 145 _ Extern.ReflectliteType.typeOf Tryd.func145 (by kernel_rfl) (by kernel_rfl) (by kernel_rfl) (by kernel_rfl)
  have h32 := @run_callFunc_extern Tryd.prog 192 _ (Extern.ReflectliteType.method fun t => do Go.Extern.Rtype.noPackHeld "Comparable" t; pure (.bool (← typeInfo t).comparable)) Tryd.func192 (by kernel_rfl) (by kernel_rfl) (by kernel_rfl) (by kernel_rfl)
  have tT := isTypeOf
  have cT := isComparable
  have mR := isMethodComparable
  have nE := noIsE
  have uE := noUnwrapE
  have vE := noUnwrapsE
  have nW := noIsW
  have uW := hasUnwrapW
  have mU := methodUnwrap
  have hty := run_eql_iface_types (P := Tryd.prog) 143 211 (.agg #[.iface 211 (.pointer (some a)), .int .i64 n]) (.pointer (some a)) Tryd.underlying71 (by decide) w
  have heq := run_eql_iface_ptr_same (P := Tryd.prog) (w.alloc (.cells #[.iface 211 (.pointer (some a)), .int .i64 n] 143)) a Tryd.underlying71 Tryd.underlying211 hi hcmp hj
  go_enter Tryd.func128, Tryd.ntmps128
  go_wp2
  refine wp_loop_rounds 2 ?_
  rw [rounds_succ]
  go_wp2
  rw [rounds_succ]
  go_wp2
  go_ret
  exact ⟨rfl, rfl⟩

set_option maxHeartbeats 4000000 in
theorem is_other_raw (a b : Addr) (n : Int) (w : World) (hne : a ≠ b) (ha : ∃ ca ta, (w.alloc (.cells #[.iface 211 (.pointer (some a)), .int .i64 n] 143)).heap[a.block]? = some (.cells ca ta (0, 0))) (hb : ∃ cb tb, (w.alloc (.cells #[.iface 211 (.pointer (some a)), .int .i64 n] 143)).heap[b.block]? = some (.cells cb tb (0, 0))) :
    Calls Tryd.prog 128 #[.iface 143 (.agg #[.iface 211 (.pointer (some a)), .int .i64 n]), .iface 211 (.pointer (some b))] w fun e w' => e = .returned (.bool false) ∧ w' = w.alloc (.cells #[.iface 211 (.pointer (some a)), .int .i64 n] 143) := by
  obtain ⟨ca, ta, ha⟩ := ha
  obtain ⟨cb, tb, hb⟩ := hb
  obtain ⟨i, hi, hcmp⟩ := Option.map_eq_some_iff.1 isComp
  obtain ⟨j, hj, hjs⟩ := Option.map_eq_some_iff.1 isSize
  have h8 := @run_callFunc_extern Tryd.prog 145 _ Extern.ReflectliteType.typeOf Tryd.func145 (by kernel_rfl) (by kernel_rfl) (by kernel_rfl) (by kernel_rfl)
  have h32 := @run_callFunc_extern Tryd.prog 192 _ (Extern.ReflectliteType.method fun t => do Go.Extern.Rtype.noPackHeld "Comparable" t; pure (.bool (← typeInfo t).comparable)) Tryd.func192 (by kernel_rfl) (by kernel_rfl) (by kernel_rfl) (by kernel_rfl)
  have tT := isTypeOf
  have cT := isComparable
  have mR := isMethodComparable
  have nE := noIsE
  have uE := noUnwrapE
  have vE := noUnwrapsE
  have nW := noIsW
  have uW := hasUnwrapW
  have mU := methodUnwrap
  have hty := run_eql_iface_types (P := Tryd.prog) 143 211 (.agg #[.iface 211 (.pointer (some a)), .int .i64 n]) (.pointer (some b)) Tryd.underlying71 (by decide) w
  have heq := run_eql_iface_ptr_other (P := Tryd.prog) (w.alloc (.cells #[.iface 211 (.pointer (some a)), .int .i64 n] 143)) Tryd.underlying71 Tryd.underlying211 hi hcmp hj (by rw [hjs]; decide) hne ha hb
  clear ha hb hne
  go_enter Tryd.func128, Tryd.ntmps128
  go_wp2
  refine wp_loop_rounds 2 ?_
  rw [rounds_succ]
  go_wp2
  rw [rounds_succ]
  go_wp2
  go_ret
  exact ⟨rfl, rfl⟩

theorem is_fault (S : Nat → Addr) (c k : Nat) (n : Int) (w : World) (hE : Errs w S) (c1 : 1 ≤ c) (c4 : c ≤ 4) (k1 : 1 ≤ k) (k4 : k ≤ 4) :
    Calls Tryd.prog 128 #[faultV S c n, errV S k] w fun e w' => e = .returned (.bool (decide (c = k))) ∧ Below w.heap.size w w' := by
  by_cases hck : c = k
  · subst hck
    rw [decide_eq_true rfl]
    exact (is_same_raw (S c) n w).mono fun e w' ⟨h1, h2⟩ => ⟨h1, by rw [h2]; exact below1 w _⟩
  · rw [decide_eq_false hck]
    have hE1 := hE.below (below1 w (.cells #[.iface 211 (.pointer (some (S c))), .int .i64 n] 143))
    exact (is_other_raw (S c) (S k) n w (fun e => hck (hE.inj c k c1 c4 k1 k4 e)) (hE1.blk c c1 c4) (hE1.blk k k1 k4)).mono fun e w' ⟨h1, h2⟩ => ⟨h1, by rw [h2]; exact below1 w _⟩
end Go.Proofs.YtnhdhpibdimkbaaDoor
