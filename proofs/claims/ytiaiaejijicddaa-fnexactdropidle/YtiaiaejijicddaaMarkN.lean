/- Plain steps: compared, marked, and found again. -/
import Derived.Test.YtiaiaejijicddaaStepT
import Derived.Test.YtiaiaejijicddaaSFlat
namespace Go.Proofs.Ytiaiaejijicddaa
open Go.RowKit
set_option linter.unusedVariables false
set_option linter.unusedSimpArgs false
set_option maxRecDepth 100000

/-- plain steps as steps with no table -/
def stps (xs : List PS) : List Stp := xs.map fun x => (x.1, x.2, [])
def svs (xs : List PS) : List SV := xs.map fun x => ((x.1, x.2, []), .slice none 0 0)
theorem stps_length (xs : List PS) : (stps xs).length = xs.length := by simp [stps]
theorem svs_length (xs : List PS) : (svs xs).length = xs.length := by simp [svs]
theorem svs_stps (xs : List PS) : (svs xs).map (·.1) = stps xs := by simp [svs, stps]
theorem flatT_svs (xs : List PS) : flatT (svs xs) = flatN xs := by simp [flatT, svs, flatN, List.flatMap_map]
theorem sumT_stps (xs : List PS) : sumT (stps xs) = 0 := by
  induction xs with
  | nil => rfl
  | cons x r ih => simpa [sumT, stps] using ih
theorem ownT_svs (w : World) (B : Nat) (blk : Option Nat) (xs : List PS) : OwnT w B blk (svs xs) := by
  refine ⟨fun y hy => ?_, ?_⟩
  · obtain ⟨x, hx, rfl⟩ := List.mem_map.1 hy
    exact ⟨World.ownsRow_nil _ _ _ _, .inl rfl⟩
  · refine List.pairwise_iff_forall_sublist.2 fun {u v} hs => .inl ?_
    have hv : v ∈ svs xs := hs.subset (by simp)
    obtain ⟨x, hx, rfl⟩ := List.mem_map.1 hv
    rfl
theorem ownS_svs {w : World} {B : Nat} {v : Value} {xs : List PS} (h : w.ownsRow B 58 3 v xs.length (flatN xs)) : OwnS w B v (svs xs) := ⟨by rw [svs_length, flatT_svs]; exact h, ownT_svs _ _ _ _⟩
theorem trowN {w : World} {B c : Nat} {a : Option Addr} {xs : List PS} (h : w.ownsRow B 58 3 (.slice a xs.length c) xs.length (flatN xs)) : TRow w a (stps xs) := by
  obtain ⟨a', c', e, r⟩ := (ownS_svs h).row
  rw [svs_stps] at e r
  injection e with e1 e2 e3
  rw [e1]; exact r
theorem eqN_any (a a' : Option Addr) (c c' : Nat) (xs : List PS) (w : World) (hl : xs.length ≤ 1000) (h : TRow w a (stps xs)) (h' : TRow w a' (stps xs)) :
    Calls Try.prog 11 #[.slice a xs.length c, .slice a' xs.length c'] w fun e w' => e = .returned (.bool true) ∧ Below w.heap.size w w' := by
  have h9 := eqSteps_same a a' c c' (stps xs) w (by rw [stps_length]; omega) h h'
  rw [stps_length] at h9
  exact h9
theorem markN_any (B : Nat) (v : Value) (xs : List PS) (w : World) (hl : xs.length ≤ 1000) (h : w.ownsRow B 58 3 v xs.length (flatN xs)) :
    Calls Try.prog 14 #[v, .int .i64 1] w fun e w' => e = .returned (.int .i64 (1 + 2 * (xs.length : Int))) ∧ w.grownBy w' v.ownBlock ∧ ∀ a n c, v = .slice a n c → TRow w' a (markY 1 (stps xs)) := by
  have hS : ∀ (ys' : List SV) (w' : World) (B' : Nat), OwnS w' B' v ys' → ys'.map (·.1) = markY 1 ((svs xs).map (·.1)) → ∀ a n c, v = .slice a n c → TRow w' a (markY 1 (stps xs)) := by
    intro ys' w' B' hO hm a n c hv
    obtain ⟨a', c', e, r⟩ := hO.row
    rw [hm, svs_stps] at r
    rw [hv] at e
    injection e with e1 e2 e3
    rw [e1]; exact r
  have hn : ∀ y ∈ svs xs, ∀ k, y.2.ownBlock = some k → k < 0 := by
    intro y hy k hk
    obtain ⟨x, hx, rfl⟩ := List.mem_map.1 hy
    cases hk
  rcases h.2 with ⟨hv, h0⟩ | ⟨g, cap, cur, hv, hB, hg⟩
  · have h9 := markSteps_any 0 0 v (svs xs) w (ownS_svs (by subst hv; obtain rfl : xs = [] := List.eq_nil_of_length_eq_zero h0; exact World.ownsRow_nil _ _ _ _)) (by rw [svs_length]; omega) (by rw [svs_stps, sumT_stps]; omega) (fun k hk => by subst hv; cases hk) hn
    refine h9.mono ?_
    rintro e w' ⟨ys', rfl, hO, hm, hT⟩
    refine ⟨by rw [svs_length, svs_stps, sumT_stps]; simp, ⟨hT.os, hT.tape, hT.output, hT.size, fun k hk _ => hT.block k hk (.inr (Nat.zero_le _))⟩, hS ys' w' _ hO hm⟩
  · have hO : w.ownsRow g 58 3 v xs.length (flatN xs) := ⟨h.1, .inr ⟨g, cap, cur, hv, Nat.le_refl _, hg⟩⟩
    have h9 := markSteps_any g (g + 1) v (svs xs) w (ownS_svs hO) (by rw [svs_length]; omega) (by rw [svs_stps, sumT_stps]; omega) (fun k hk => by subst hv; simp [Value.ownBlock] at hk; omega) (fun y hy k hk => by have := hn y hy k hk; omega)
    refine h9.mono ?_
    rintro e w' ⟨ys', rfl, hO, hm, hT⟩
    refine ⟨by rw [svs_length, svs_stps, sumT_stps]; simp, ⟨hT.os, hT.tape, hT.output, hT.size, fun k hk hne => hT.block k hk ?_⟩, hS ys' w' _ hO hm⟩
    have : k ≠ g := by subst hv; simpa [Value.ownBlock] using hne
    omega
theorem heldN_any (a : Option Addr) (c : Nat) (xs : List PS) (w : World) (hl : xs.length ≤ 1000) (h : TRow w a (markY 1 (stps xs))) :
    Calls Try.prog 15 #[.slice a xs.length c, .int .i64 1] w fun e w' => e = .returned (.int .i64 (1 + 2 * (xs.length : Int))) ∧ w' = w := by
  have h9 := heldSteps_any a c (stps xs) w (by rw [stps_length]; omega) (by rw [sumT_stps]; omega) h
  rw [stps_length, sumT_stps] at h9
  simpa using h9
end Go.Proofs.Ytiaiaejijicddaa
