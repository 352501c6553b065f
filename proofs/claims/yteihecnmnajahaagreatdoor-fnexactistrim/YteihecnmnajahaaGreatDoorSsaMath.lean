/- Parts and their values, as plain lists: which ssas are good. -/
import Derived.Test.YteihecnmnajahaaGreatDoorJ1
import Derived.Test.YteihecnmnajahaaGreatDoorK2
import Derived.Test.YteihecnmnajahaaGreatDoorPureI
namespace Go.Proofs.YteihecnmnajahaaGreatDoor
open Go
set_option linter.unusedVariables false

structure Prt where
  params : List Int
  code : List Flt
  go : Int
  test : Int
  next : List Int
  args : List (List Int)
instance : Inhabited Prt := ⟨⟨[], [], 0, 0, [], []⟩⟩
def allFm (m : Int) (l : List Flt) : Bool := l.all (goodFm m)
/-- a part's Go, Test and how many Next it has fit, there being m names -/
def waysBm (m go test : Int) (n : Nat) : Bool :=
  if go = 1 then decide (n = 1) && zB test
  else if go = 2 then decide (n = 2) && belB m test
  else if go = 5 then inB 2 6 n && belB m test
  else if go = 3 ∨ go = 4 then decide (n = 0) && zB test
  else false
def goodBm (m : Int) (k : Nat) (b : Blk) : Bool := allFm m b.code && (allNext k b.next && (decide (b.code.length ≤ 60) && waysBm m b.go b.test b.next.length))
/-- how many values a part has to hand on, for each list -/
def handsOn (ps : List Prt) (p : Prt) : List Nat := if p.go = 3 then [3] else p.next.map fun x => ((ps[x.toNat]?).getD default).params.length
def fitArgs (ps : List Prt) (p : Prt) : Bool := decide (p.args.map List.length = handsOn ps p)
def goodPrt (m : Int) (ps : List Prt) (p : Prt) : Bool := goodBm m ps.length ⟨p.code, p.go, p.test, p.next⟩ && (allBel m p.params && fitArgs ps p)
/-- the graph of parts -/
def toNats (l : List Int) : List Nat := l.map Int.toNat
def shapeL (ps : List Prt) : List (List Nat) := ps.map fun p => setL (toNats p.next)
/-- a flat step has a Dst -/
def setsB (op : Int) : Bool := inB 1 4 op
def made (l : List Flt) : List Int := (l.filter fun x => setsB x.op).map (·.dst)
/-- the values that come to be in a part -/
def comes (p : Prt) : List Int := p.params ++ made p.code
/-- the values that a flat step uses -/
def usesF (x : Flt) : List Int := if x.op = 1 then [] else if x.op = 3 ∨ x.op = 5 then [x.a, x.b] else [x.a]
/-- those that a part uses behind its steps -/
def testsB (go : Int) : Bool := decide (go = 2 ∨ go = 5)
def ends (p : Prt) : List Int := p.args.flatten ++ if testsB p.go then [p.test] else []
/-- one value comes to be; none where it did already, or is none -/
def put1 (V : Nat) (k : Nat) (D : List Int) (v : Int) : Option (List Int) := if 0 ≤ v ∧ v < V ∧ D[v.toNat]? = some (-1) then some (D.set v.toNat (k : Int)) else none
def puts (V : Nat) (k : Nat) : List Int → List Int → Option (List Int)
  | D, [] => some D
  | D, v :: r => (put1 V k D v).bind fun D' => puts V k D' r
def defs0 (V : Nat) : List Int := (List.range V).map fun v => if v < 12 then 0 else -1
/-- in which part each value comes to be: the parts from k on -/
def defsFrom (V : Nat) : Nat → List Prt → List Int → Option (List Int)
  | _, [], D => some D
  | k, p :: r, D => (puts V k D (comes p)).bind fun D' => defsFrom V (k + 1) r D'
def defsL (V : Nat) (ps : List Prt) : Option (List Int) := defsFrom V 0 ps (defs0 V)
/-- a value is there: at first, in a part that dominates, or so far -/
def There (V : Nat) (D : List Int) (dom : Nat → Prop) (k : Nat) (far : List Int) (v : Int) : Prop :=
  0 ≤ v ∧ v < V ∧ (v < 12 ∨ v ∈ far ∨ ∃ d : Nat, D[v.toNat]? = some (d : Int) ∧ d ≠ k ∧ dom d)
/-- the steps use but what is there -/
def StepsOk (V : Nat) (D : List Int) (dom : Nat → Prop) (k : Nat) : List Int → List Flt → Prop
  | _, [] => True
  | far, x :: r => (∀ v ∈ usesF x, There V D dom k far v) ∧ StepsOk V D dom k (far ++ if setsB x.op then [x.dst] else []) r
def PartOk (V : Nat) (D : List Int) (dom : Nat → Prop) (k : Nat) (p : Prt) : Prop :=
  StepsOk V D dom k p.params p.code ∧ ∀ v ∈ ends p, There V D dom k (p.params ++ made p.code) v
structure GoodS (V : Int) (ps : List Prt) : Prop where
  pos : 1 ≤ ps.length
  most : ps.length ≤ 11
  low : 12 ≤ V
  high : V ≤ 250
  parts : ∀ p ∈ ps, goodPrt V ps p = true
  first : ∀ p, ps[0]? = some p → p.params = []
  back : ∀ p ∈ ps, (0 : Int) ∉ p.next
  come : ∀ k, k < ps.length → Come (shapeL ps) k
  defs : ∃ D, defsL V.toNat ps = some D ∧ ∀ k p, ps[k]? = some p → PartOk V.toNat D (fun d => Dom (shapeL ps) d k) k p

theorem puts_append (V k : Nat) (D : List Int) (l m : List Int) : puts V k D (l ++ m) = (puts V k D l).bind fun D' => puts V k D' m := by
  induction l generalizing D with
  | nil => rfl
  | cons v r ih =>
    simp only [List.cons_append, puts]
    cases put1 V k D v with
    | none => rfl
    | some D' => exact ih D'
theorem puts_take {V k : Nat} {D : List Int} {l : List Int} {j : Nat} {v : Int} (h : l[j]? = some v) : puts V k D (l.take (j + 1)) = (puts V k D (l.take j)).bind fun D' => put1 V k D' v := by
  rw [List.take_add_one, h, puts_append]
  cases puts V k D (l.take j) with
  | none => rfl
  | some D' => simp [puts]
theorem puts_none {V k : Nat} {D : List Int} {l : List Int} {j : Nat} (h : puts V k D (l.take j) = none) : puts V k D l = none := by
  have e : l = l.take j ++ l.drop j := (List.take_append_drop j l).symm
  rw [e, puts_append, h]; rfl
theorem put1_len {V k : Nat} {D D' : List Int} {v : Int} (h : put1 V k D v = some D') : D'.length = D.length := by
  unfold put1 at h; split at h
  · cases h; simp
  · cases h
theorem puts_len {V k : Nat} {D D' : List Int} {l : List Int} (h : puts V k D l = some D') : D'.length = D.length := by
  induction l generalizing D with
  | nil => cases h; rfl
  | cons v r ih =>
    simp only [puts] at h
    cases e : put1 V k D v with
    | none => rw [e] at h; cases h
    | some E => rw [e] at h; rw [ih h, put1_len e]
theorem defs0_len (V : Nat) : (defs0 V).length = V := by simp [defs0]
theorem defsFrom_append (V k : Nat) (l m : List Prt) (D : List Int) : defsFrom V k (l ++ m) D = (defsFrom V k l D).bind fun D' => defsFrom V (k + l.length) m D' := by
  induction l generalizing k D with
  | nil => rfl
  | cons p r ih =>
    simp only [List.cons_append, defsFrom]
    cases puts V k D (comes p) with
    | none => rfl
    | some D' =>
      show defsFrom V (k + 1) (r ++ m) D' = _
      rw [ih]
      have : k + 1 + r.length = k + (p :: r).length := by simp; omega
      rw [this]; rfl
theorem defsFrom_take {V : Nat} {ps : List Prt} {D : List Int} {j : Nat} {p : Prt} (h : ps[j]? = some p) : defsFrom V 0 (ps.take (j + 1)) D = (defsFrom V 0 (ps.take j) D).bind fun D' => puts V j D' (comes p) := by
  have hl : j < ps.length := (List.getElem?_eq_some_iff.1 h).1
  rw [List.take_add_one, h, defsFrom_append]
  cases defsFrom V 0 (ps.take j) D with
  | none => rfl
  | some D' =>
    have : 0 + (ps.take j).length = j := by simp; omega
    rw [this]
    simp only [Option.toList_some, defsFrom, Option.bind_some]
    cases puts V j D' (comes p) <;> rfl
theorem defsFrom_none {V : Nat} {ps : List Prt} {D : List Int} {j : Nat} (h : defsFrom V 0 (ps.take j) D = none) : defsFrom V 0 ps D = none := by
  have e : ps = ps.take j ++ ps.drop j := (List.take_append_drop j ps).symm
  rw [e, defsFrom_append, h]; rfl
theorem defsFrom_len {V k : Nat} {ps : List Prt} {D D' : List Int} (h : defsFrom V k ps D = some D') : D'.length = D.length := by
  induction ps generalizing k D with
  | nil => cases h; rfl
  | cons p r ih =>
    simp only [defsFrom] at h
    cases e : puts V k D (comes p) with
    | none => rw [e] at h; cases h
    | some E => rw [e] at h; rw [ih h, puts_len e]
/-- what lies in such a list: -1, or a part's number -/
def Low (n : Nat) (D : List Int) : Prop := ∀ (i : Nat) d, D[i]? = some d → d = -1 ∨ ∃ m : Nat, d = m ∧ m < n
theorem Low.defs0 (V n : Nat) (hn : 0 < n) : Low n (defs0 V) := by
  intro i d h
  simp only [Go.Proofs.YteihecnmnajahaaGreatDoor.defs0, List.getElem?_map] at h
  cases e : (List.range V)[i]? with
  | none => rw [e] at h; cases h
  | some v =>
    rw [e] at h
    simp only [Option.map_some, Option.some.injEq] at h
    split at h
    · exact .inr ⟨0, h.symm, hn⟩
    · exact .inl h.symm
theorem Low.put1 {n V k : Nat} {D D' : List Int} {v : Int} (h : Low n D) (hk : k < n) (hp : put1 V k D v = some D') : Low n D' := by
  unfold Go.Proofs.YteihecnmnajahaaGreatDoor.put1 at hp
  split at hp
  · cases hp
    intro i d hd
    rw [List.getElem?_set] at hd
    split at hd
    · split at hd
      · cases hd; exact .inr ⟨k, rfl, hk⟩
      · cases hd
    · exact h i d hd
  · cases hp
theorem Low.puts {n V k : Nat} {D D' : List Int} {l : List Int} (h : Low n D) (hk : k < n) (hp : puts V k D l = some D') : Low n D' := by
  induction l generalizing D with
  | nil => cases hp; exact h
  | cons v r ih =>
    simp only [Go.Proofs.YteihecnmnajahaaGreatDoor.puts] at hp
    cases e : Go.Proofs.YteihecnmnajahaaGreatDoor.put1 V k D v with
    | none => rw [e] at hp; cases hp
    | some E => rw [e] at hp; exact ih (h.put1 hk e) hp
theorem Low.defsFrom {n V k : Nat} {ps : List Prt} {D D' : List Int} (h : Low n D) (hk : k + ps.length ≤ n) (hp : defsFrom V k ps D = some D') : Low n D' := by
  induction ps generalizing k D with
  | nil => cases hp; exact h
  | cons p r ih =>
    simp only [Go.Proofs.YteihecnmnajahaaGreatDoor.defsFrom] at hp
    simp only [List.length_cons] at hk
    cases e : Go.Proofs.YteihecnmnajahaaGreatDoor.puts V k D (comes p) with
    | none => rw [e] at hp; cases hp
    | some E => rw [e] at hp; exact ih (h.puts (by omega) e) (by omega) hp
theorem Low.is {n : Nat} {D : List Int} (h : Low n D) {i : Nat} {d : Int} (hd : D[i]? = some d) : d ≠ -1 ↔ 0 ≤ d := by
  rcases h i d hd with rfl | ⟨m, rfl, _⟩
  · simp
  · constructor <;> intro <;> omega
theorem StepsOk.append {V : Nat} {D : List Int} {dom : Nat → Prop} {k : Nat} {far : List Int} {l m : List Flt} : StepsOk V D dom k far (l ++ m) ↔ StepsOk V D dom k far l ∧ StepsOk V D dom k (far ++ made l) m := by
  induction l generalizing far with
  | nil => simp [StepsOk, made]
  | cons x r ih =>
    simp only [List.cons_append, StepsOk, ih]
    have e : far ++ (if setsB x.op then [x.dst] else []) ++ made r = far ++ made (x :: r) := by
      simp only [made, List.filter_cons]
      cases setsB x.op <;> simp
    rw [e, and_assoc]
end Go.Proofs.YteihecnmnajahaaGreatDoor
