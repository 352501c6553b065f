/- What errors.As tells of a fault of the program, at a target that is a fault. -/
import Derived.Test.YtnhdhpibdimkbaaDoorIsas
namespace Go.Proofs.YtnhdhpibdimkbaaDoor
open Go.RowKit Go.Extern.Stop Go.Stop Go.Extern
set_option linter.unusedVariables false
set_option linter.unusedSimpArgs false
set_option maxRecDepth 100000

theorem as_nil (t : Value) (w : World) :
    Calls Tryd.prog 129 #[.nilIface, t] w fun e w' => e = .returned (.bool false) ∧ w' = w := by
  go_enter Tryd.func129, Tryd.ntmps129
  go_wp2
  go_ret
  exact ⟨rfl, rfl⟩

theorem asValueP (t : Addr) (w : World) : (ReflectliteValue.unpack (.iface 150 (.pointer (some t)))).run Tryd.prog w
    = .ok (.agg #[.pointer (some ⟨10, 150, none⟩), .pointer (some ⟨w.heap.size, 0, none⟩), .int .u64 150]) (w.alloc (.cells #[.pointer (some t)] 150)) := by kernel_rfl
theorem asType (a : Addr) (w : World) : (ReflectliteValue.methodAny (ReflectliteValue.valueError "reflectlite.Value.Type" 0) (fun t _ _ _ => ReflectliteType.toType t) #[.agg #[.pointer (some ⟨10, 150, none⟩), .pointer (some a), .int .u64 150]]).run Tryd.prog w
    = .ok (.iface 189 (.agg #[.pointer (some ⟨10, 150, none⟩)])) w := by kernel_rfl
theorem asMethodKind (h : Value) (w : World) : (Go.method 341 189 (.agg #[h]) "Kind").run Tryd.prog w = .ok (180, h) w := by kernel_rfl
theorem asKindP (w : World) : ((ReflectliteType.abiMethod fun t => (fun a : Nat => Value.int IntKind.u8 (a : Int)) <$> Rtype.kind t) #[.pointer (some ⟨10, 150, none⟩)]).run Tryd.prog w = .ok (.int .u8 22) w := by kernel_rfl
theorem asKindS (w : World) : ((ReflectliteType.abiMethod fun t => (fun a : Nat => Value.int IntKind.u8 (a : Int)) <$> Rtype.kind t) #[.pointer (some ⟨10, 143, none⟩)]).run Tryd.prog w = .ok (.int .u8 25) w := by kernel_rfl
theorem asRlm (z : Sem Value) (f : TypeId → Addr → Nat → Nat → Sem Value) (v : Value) :
    ReflectliteValue.method z f #[v] = (do match ← ReflectliteValue.parts v with | none => z | some (t, a, fl) => f t a fl (fl % 32)) := rfl
theorem asPartsP (a : Addr) (w : World) : (ReflectliteValue.parts (.agg #[.pointer (some ⟨10, 150, none⟩), .pointer (some a), .int .u64 150])).run Tryd.prog w = .ok (some (150, a, 150)) w := by kernel_rfl
theorem asIsNil (a p : Addr) (W : World) (ha : W.cell? a = some (.pointer (some p))) :
    (ReflectliteValue.method (ReflectliteValue.valueError "reflectlite.Value.IsNil" 0) ReflectliteValue.isNil #[.agg #[.pointer (some ⟨10, 150, none⟩), .pointer (some a), .int .u64 150]]).run Tryd.prog W = .ok (.bool false) W := by
  rw [asRlm]
  simp only [Sem.run_bind, asPartsP, Result.andThen]
  simp [ReflectliteValue.isNil, loadVar, isAgg, underlying, Tryd.underlying150, ha, Result.andThen]
theorem asMethodElem (h : Value) (w : World) : (Go.method 341 189 (.agg #[h]) "Elem").run Tryd.prog w = .ok (193, .agg #[h]) w := by kernel_rfl
theorem asMethodImplements (h : Value) (w : World) : (Go.method 341 189 (.agg #[h]) "Implements").run Tryd.prog w = .ok (194, .agg #[h]) w := by kernel_rfl
theorem asMethodAssignableTo (h : Value) (w : World) : (Go.method 341 189 (.agg #[h]) "AssignableTo").run Tryd.prog w = .ok (191, .agg #[h]) w := by kernel_rfl
theorem asElem (w : World) : (ReflectliteType.method ReflectliteType.elem #[.agg #[.pointer (some ⟨10, 150, none⟩)]]).run Tryd.prog w = .ok (.iface 189 (.agg #[.pointer (some ⟨10, 143, none⟩)])) w := by kernel_rfl
theorem asImplements (w : World) : (ReflectliteType.relation "Implements" ReflectliteType.implements_ #[.agg #[.pointer (some ⟨10, 143, none⟩)], .iface 189 (.agg #[.pointer (some ⟨10, 71, none⟩)])]).run Tryd.prog w = .ok (.bool true) w := by kernel_rfl
theorem asTypeOf (v : Value) (w : World) : (ReflectliteType.typeOf #[.iface 143 v]).run Tryd.prog w = .ok (.iface 189 (.agg #[.pointer (some ⟨10, 143, none⟩)])) w := by kernel_rfl
theorem asAssignable (w : World) : (ReflectliteType.relation "AssignableTo" ReflectliteType.assignableTo #[.agg #[.pointer (some ⟨10, 143, none⟩)], .iface 189 (.agg #[.pointer (some ⟨10, 143, none⟩)])]).run Tryd.prog w = .ok (.bool true) w := by kernel_rfl
theorem asValueS (e : Value) (n : Int) (w : World) : (ReflectliteValue.unpack (.iface 143 (.agg #[e, .int .i64 n]))).run Tryd.prog w
    = .ok (.agg #[.pointer (some ⟨10, 143, none⟩), .pointer (some ⟨w.heap.size, 0, none⟩), .int .u64 153]) (w.alloc (.cells #[e, .int .i64 n] 143)) := by kernel_rfl
theorem asElemOf (w : World) : (Rtype.elem? 150).run Tryd.prog w = .ok (some 143) w := by kernel_rfl
theorem asMk (p : Addr) (w : World) : (ReflectliteValue.mk 143 p ReflectliteValue.flagAddr).run Tryd.prog w = .ok (.agg #[.pointer (some ⟨10, 143, none⟩), .pointer (some p), .int .u64 409]) w := by kernel_rfl
theorem asElemV (a p : Addr) (W : World) (ha : W.cell? a = some (.pointer (some p))) :
    (ReflectliteValue.method (ReflectliteValue.valueError "reflectlite.Value.Elem" 0) ReflectliteValue.elem #[.agg #[.pointer (some ⟨10, 150, none⟩), .pointer (some a), .int .u64 150]]).run Tryd.prog W
      = .ok (.agg #[.pointer (some ⟨10, 143, none⟩), .pointer (some p), .int .u64 409]) W := by
  rw [asRlm]
  simp only [Sem.run_bind, asPartsP, Result.andThen]
  simp [ReflectliteValue.elem, loadVar, isAgg, underlying, Tryd.underlying150, ha, Result.andThen, asElemOf, asMk]
theorem asRls (v x : Value) : ReflectliteValue.set #[v, x] = (do
    let (some (dst, a, fl), some (src, b, _)) := (← ReflectliteValue.parts v, ← ReflectliteValue.parts x)
      | unsupported (.noEntry "extern/(internal/reflectlite.Value).Set.zeroValue")
    if fl / ReflectliteValue.flagAddr % 2 == 0 then unsupported (.noEntry "extern/(internal/reflectlite.Value).Set.unaddressable")
    let val ← loadVar src b
    if ← Rtype.directlyAssignable dst src then storeVar dst a val
    else if ← Rtype.implements dst src then
      if (← Rtype.kind src) == 20 then
        match val with
        | .nilIface => unsupported (.noEntry "extern/reflectlite: a nil value of one interface type handed on as a value of another")
        | _ => storeVar dst a val
      else storeVar dst a (.iface src val)
    else panicString ("reflectlite.Set: value of type " ++ (← Rtype.spelt src) ++ " is not assignable to type " ++ (← Rtype.spelt dst))
    pure (.tuple #[])) := rfl
theorem asPartsA (a : Addr) (w : World) : (ReflectliteValue.parts (.agg #[.pointer (some ⟨10, 143, none⟩), .pointer (some a), .int .u64 409])).run Tryd.prog w = .ok (some (143, a, 409)) w := by kernel_rfl
theorem asPartsS (a : Addr) (w : World) : (ReflectliteValue.parts (.agg #[.pointer (some ⟨10, 143, none⟩), .pointer (some a), .int .u64 153])).run Tryd.prog w = .ok (some (143, a, 153)) w := by kernel_rfl
theorem asDirect (w : World) : (Rtype.directlyAssignable 143 143).run Tryd.prog w = .ok true w := by kernel_rfl
theorem asSize (w : World) : (sizeOf 143).run Tryd.prog w = .ok 2 w := by kernel_rfl
theorem asSet (t b : Nat) (e u0 u1 : Value) (n : Int) (a : Addr) (he : e = .iface 211 (.pointer (some a))) (W : World) (hb0 : W.cell? ⟨b, 0, none⟩ = some e) (hb1 : W.cell? ⟨b, 1, none⟩ = some (.int .i64 n)) (ht0 : W.cell? ⟨t, 0, none⟩ = some u0) (ht1 : W.cell? ⟨t, 1, none⟩ = some u1) (hf0 : W.frozen? ⟨t, 0, none⟩ = false) (hf1 : W.frozen? ⟨t, 1, none⟩ = false) :
    (ReflectliteValue.set #[.agg #[.pointer (some ⟨10, 143, none⟩), .pointer (some ⟨t, 0, none⟩), .int .u64 409], .agg #[.pointer (some ⟨10, 143, none⟩), .pointer (some ⟨b, 0, none⟩), .int .u64 153]]).run Tryd.prog W
      = .ok (.tuple #[]) ((W.setCell ⟨t, 0, none⟩ e).setCell ⟨t, 1, none⟩ (.int .i64 n)) := by
  subst he
  rw [asRls]
  simp only [Sem.run_bind, asPartsA, asPartsS, Result.andThen]
  have hadd : ∀ (g k : Nat), (⟨g, 0, none⟩ : Addr).add k = ⟨g, k, none⟩ := fun g k => by unfold Addr.add; split <;> simp_all
  have hl : (loadCells ⟨b, 0, none⟩ 2).run Tryd.prog W = .ok #[.iface 211 (.pointer (some a)), .int .i64 n] W := by
    refine run_loadCells_list W ⟨b, 0, none⟩ [.iface 211 (.pointer (some a)), .int .i64 n] ?_
    intro j v hj
    rw [hadd]
    match j, hj with
    | 0, hj => cases hj; exact hb0
    | 1, hj => cases hj; exact hb1
    | j + 2, hj => simp at hj
  simp [ReflectliteValue.flagAddr, loadVar, isAgg, underlying, Tryd.underlying143, Result.andThen, asDirect, storeVar, Value.cells, asSize, hl]
  simp only [storeCells, hadd, Sem.run_bind]
  rw [run_store Tryd.prog W _ _ _ (by rfl)]
  simp [ht0, hf0, Result.andThen]
  rw [run_store Tryd.prog _ _ _ _ (by rfl)]
  have g1 : (W.setCell ⟨t, 0, none⟩ (.iface 211 (.pointer (some a)))).cell? ⟨t, 1, none⟩ = some u1 := by simp [go_sem, ht1]
  have g2 : (W.setCell ⟨t, 0, none⟩ (.iface 211 (.pointer (some a)))).frozen? ⟨t, 1, none⟩ = false := by simp [go_sem, hf1]
  simp [g1, g2, Result.andThen]

set_option maxHeartbeats 8000000 in
/-- errors.As of a fault, at a variable of that type -/
theorem as_hit (a : Addr) (n : Int) (t : Nat) (u0 u1 : Value) (w : World) (hg : w.cell? ⟨5, 0, none⟩ = some (.iface 189 (.agg #[.pointer (some ⟨10, 71, none⟩)]))) (ht0 : w.cell? ⟨t, 0, none⟩ = some u0) (ht1 : w.cell? ⟨t, 1, none⟩ = some u1) (hf0 : w.frozen? ⟨t, 0, none⟩ = false) (hf1 : w.frozen? ⟨t, 1, none⟩ = false) :
    Calls Tryd.prog 129 #[.iface 143 (.agg #[.iface 211 (.pointer (some a)), .int .i64 n]), .iface 150 (.pointer (some ⟨t, 0, none⟩))] w fun ev w' => ev = .returned (.bool true) ∧ w' = (((((w.alloc (.cells #[.pointer (some ⟨t, 0, none⟩)] 150)).alloc (.cells #[.pointer (some ⟨10, 150, none⟩), .pointer (some ⟨w.heap.size, 0, none⟩), .int .u64 150] 173)).alloc (.cells #[.pointer (some ⟨10, 150, none⟩), .pointer (some ⟨w.heap.size, 0, none⟩), .int .u64 150] 173)).alloc (.cells #[.iface 211 (.pointer (some a)), .int .i64 n] 143)).setCell ⟨t, 0, none⟩ (.iface 211 (.pointer (some a)))).setCell ⟨t, 1, none⟩ (.int .i64 n) := by
  have h6 := @run_callFunc_extern Tryd.prog 147 _ (fun args => ReflectliteValue.unpack (args.getD 0 (.tuple #[]))) Tryd.func147 (by kernel_rfl) (by kernel_rfl) (by kernel_rfl) (by kernel_rfl)
  have h7 := @run_callFunc_extern Tryd.prog 148 _ (ReflectliteValue.methodAny (ReflectliteValue.valueError "reflectlite.Value.Type" 0) (fun t _ _ _ => ReflectliteType.toType t)) Tryd.func148 (by kernel_rfl) (by kernel_rfl) (by kernel_rfl) (by kernel_rfl)
  have h8 := @run_callFunc_extern Tryd.prog 149 _ (ReflectliteValue.method (ReflectliteValue.valueError "reflectlite.Value.IsNil" 0) ReflectliteValue.isNil) Tryd.func149 (by kernel_rfl) (by kernel_rfl) (by kernel_rfl) (by kernel_rfl)
  have h27 := @run_callFunc_extern Tryd.prog 180 _ (ReflectliteType.abiMethod fun t => do pure (.int .u8 (← Rtype.kind t))) Tryd.func180 (by kernel_rfl) (by kernel_rfl) (by kernel_rfl) (by kernel_rfl)
  have h37 := @run_callFunc_extern Tryd.prog 193 _ (ReflectliteType.method ReflectliteType.elem) Tryd.func193 (by kernel_rfl) (by kernel_rfl) (by kernel_rfl) (by kernel_rfl)
  have h38 := @run_callFunc_extern Tryd.prog 194 _ (ReflectliteType.relation "Implements" ReflectliteType.implements_) Tryd.func194 (by kernel_rfl) (by kernel_rfl) (by kernel_rfl) (by kernel_rfl)
  have h10 := @run_callFunc_extern Tryd.prog 145 _ ReflectliteType.typeOf Tryd.func145 (by kernel_rfl) (by kernel_rfl) (by kernel_rfl) (by kernel_rfl)
  have h35 := @run_callFunc_extern Tryd.prog 191 _ (ReflectliteType.relation "AssignableTo" ReflectliteType.assignableTo) Tryd.func191 (by kernel_rfl) (by kernel_rfl) (by kernel_rfl) (by kernel_rfl)
  have h11 := @run_callFunc_extern Tryd.prog 157 _ (ReflectliteValue.method (ReflectliteValue.valueError "reflectlite.Value.Elem" 0) ReflectliteValue.elem) Tryd.func157 (by kernel_rfl) (by kernel_rfl) (by kernel_rfl) (by kernel_rfl)
  have h12 := @run_callFunc_extern Tryd.prog 158 _ ReflectliteValue.set Tryd.func158 (by kernel_rfl) (by kernel_rfl) (by kernel_rfl) (by kernel_rfl)
  have tO := asTypeOf
  have mA := asMethodAssignableTo
  have a25 := asAssignable
  have v25 := asValueS
  have f6 := asValueP
  have f7 := asType
  have mK := asMethodKind
  have mE := asMethodElem
  have mI := asMethodImplements
  have k27 := asKindP
  have k25 := asKindS
  have e27 := asElem
  have i25 := asImplements
  have n8 := asIsNil ⟨w.heap.size, 0, none⟩ ⟨t, 0, none⟩ ((w.alloc (.cells #[.pointer (some ⟨t, 0, none⟩)] 150)).alloc (.cells #[.pointer (some ⟨10, 150, none⟩), .pointer (some ⟨w.heap.size, 0, none⟩), .int .u64 150] 173)) (by simp)
  have hlt : 5 < w.heap.size := World.block_lt_of_cell? w _ hg
  have htl : t < w.heap.size := World.block_lt_of_cell? w _ ht0
  have el := asElemV ⟨w.heap.size, 0, none⟩ ⟨t, 0, none⟩ (((w.alloc (.cells #[.pointer (some ⟨t, 0, none⟩)] 150)).alloc (.cells #[.pointer (some ⟨10, 150, none⟩), .pointer (some ⟨w.heap.size, 0, none⟩), .int .u64 150] 173)).alloc (.cells #[.pointer (some ⟨10, 150, none⟩), .pointer (some ⟨w.heap.size, 0, none⟩), .int .u64 150] 173)) (by rw [(below2 _ _ _).cell (by simp)]; simp [go_sem])
  have hb4 : Below w.heap.size w ((((w.alloc (.cells #[.pointer (some ⟨t, 0, none⟩)] 150)).alloc (.cells #[.pointer (some ⟨10, 150, none⟩), .pointer (some ⟨w.heap.size, 0, none⟩), .int .u64 150] 173)).alloc (.cells #[.pointer (some ⟨10, 150, none⟩), .pointer (some ⟨w.heap.size, 0, none⟩), .int .u64 150] 173)).alloc (.cells #[.iface 211 (.pointer (some a)), .int .i64 n] 143)) := (below3 w _ _ _).alloc (by simp; omega) _
  have st := asSet t (w.heap.size + 1 + 1 + 1) (.iface 211 (.pointer (some a))) u0 u1 n a rfl ((((w.alloc (.cells #[.pointer (some ⟨t, 0, none⟩)] 150)).alloc (.cells #[.pointer (some ⟨10, 150, none⟩), .pointer (some ⟨w.heap.size, 0, none⟩), .int .u64 150] 173)).alloc (.cells #[.pointer (some ⟨10, 150, none⟩), .pointer (some ⟨w.heap.size, 0, none⟩), .int .u64 150] 173)).alloc (.cells #[.iface 211 (.pointer (some a)), .int .i64 n] 143))
    (by rw [World.cell?_alloc_at _ _ _ _ (by simp)]; rfl) (by rw [World.cell?_alloc_at _ _ _ _ (by simp)]; rfl)
    (by rw [hb4.cell (p := ⟨t, 0, none⟩) htl]; exact ht0) (by rw [hb4.cell (p := ⟨t, 1, none⟩) htl]; exact ht1) (by rw [hb4.frozen (p := ⟨t, 0, none⟩) htl]; exact hf0) (by rw [hb4.frozen (p := ⟨t, 1, none⟩) htl]; exact hf1)
  clear hb4
  go_enter Tryd.func129, Tryd.ntmps129
  go_wp2
  refine wp_loop_rounds 1 ?_
  rw [rounds_succ]
  go_wp2
  go_ret
  exact ⟨rfl, rfl⟩
end Go.Proofs.YtnhdhpibdimkbaaDoor
