import PyProof.Rows.All
import KE.OsGo
import PySem.Challenge.RW_waterways_s01_side
open PySem PySem.W
set_option Elab.async false
namespace Wz
open Rg
/-- A number of a place that may be handed in. -/
def In (z : Int) : Prop := -1048576 ≤ z ∧ z ≤ 1048576
theorem far (z : Int) : z.natAbs ≤ Rg.FAR ↔ In z := by
  unfold Rg.FAR In
  omega
theorem ptok (x y : Int) : (Pt.ok ⟨x, y⟩ = true) ↔ (In x ∧ In y) := by
  unfold Pt.ok
  simp only [Bool.and_eq_true, decide_eq_true_eq, far]
theorem ptne (a b c d : Int) : (((⟨a, b⟩ : Pt) != ⟨c, d⟩) = true) ↔ ¬ (a = c ∧ b = d) := by
  rw [bne_iff_ne, Ne, Pt.mk.injEq]
def left (px py qx qy cx cy : Int) : Int := (qx - px) * (cy - py) - (qy - py) * (cx - px)
theorem left_is (px py qx qy cx cy : Int) : leftOf ⟨px, py⟩ ⟨qx, qy⟩ ⟨cx, cy⟩ = left px py qx qy cx cy := rfl
theorem side_bad {px py qx qy cx cy : Int} (h : ¬ (In px ∧ In py ∧ In qx ∧ In qy ∧ In cx ∧ In cy ∧ ¬ (px = qx ∧ py = qy))) :
    PyWqatct.side px py qx qy cx cy = [-8] := by
  have n : ¬ ((Wqatct.Call.side ⟨px, py⟩ ⟨qx, qy⟩ ⟨cx, cy⟩).ok = true) := by
    unfold Wqatct.Call.ok Wqatct.line
    simp only [Bool.and_eq_true, ptok, ptne]
    intro k
    exact h ⟨k.1.1.1, k.1.1.2, k.1.2.1.1, k.1.2.1.2, k.2.1, k.2.2, k.1.2.2⟩
  show (Wqatct.answer (.side ⟨px, py⟩ ⟨qx, qy⟩ ⟨cx, cy⟩)).ret :: (Wqatct.answer (.side ⟨px, py⟩ ⟨qx, qy⟩ ⟨cx, cy⟩)).nums.map WqatctNeutral.int = [-8]
  unfold Wqatct.answer
  rw [if_neg n]
  rfl
theorem side_ok {px py qx qy cx cy : Int} (h : In px ∧ In py ∧ In qx ∧ In qy ∧ In cx ∧ In cy ∧ ¬ (px = qx ∧ py = qy)) :
    PyWqatct.side px py qx qy cx cy = [if 0 < left px py qx qy cx cy then 1 else if left px py qx qy cx cy < 0 then 2 else 0] := by
  have n : (Wqatct.Call.side ⟨px, py⟩ ⟨qx, qy⟩ ⟨cx, cy⟩).ok = true := by
    unfold Wqatct.Call.ok Wqatct.line
    simp only [Bool.and_eq_true, ptok, ptne]
    exact ⟨⟨⟨h.1, h.2.1⟩, ⟨h.2.2.1, h.2.2.2.1⟩, h.2.2.2.2.2.2⟩, h.2.2.2.2.1, h.2.2.2.2.2.1⟩
  show (Wqatct.answer (.side ⟨px, py⟩ ⟨qx, qy⟩ ⟨cx, cy⟩)).ret :: (Wqatct.answer (.side ⟨px, py⟩ ⟨qx, qy⟩ ⟨cx, cy⟩)).nums.map WqatctNeutral.int = _
  unfold Wqatct.answer
  rw [if_pos n]
  show [((Rg.side ⟨px, py⟩ ⟨qx, qy⟩ ⟨cx, cy⟩ : Nat) : Int)] = _
  unfold Rg.side
  rw [left_is]
  split
  · rfl
  · split <;> rfl
end Wz

/-! The request, number by number. -/
namespace Wz
theorem take_int {lo hi k : Int} {cs : List Codec} {ds : List WData} (h : (Codec.decAll (.int lo hi :: cs) (WData.int k :: ds)).isSome = true) :
    (lo ≤ k ∧ k ≤ hi) ∧ (Codec.decAll cs ds).isSome = true ∧ ∀ r, Codec.decAll cs ds = some r → Codec.decAll (.int lo hi :: cs) (WData.int k :: ds) = some (k, r) := by
  have e : Codec.decAll (.int lo hi :: cs) (WData.int k :: ds) = Codec.both Prod.mk (if Codec.inInt lo hi k = true then some k else none) (Codec.decAll cs ds) := rfl
  rw [e] at h ⊢
  cases h1 : Codec.inInt lo hi k with
  | false =>
    rw [h1] at h
    cases h
  | true =>
    rw [h1, if_pos rfl] at h
    have h2 := h1
    unfold Codec.inInt at h2
    simp only [Bool.and_eq_true, decide_eq_true_eq] at h2
    cases h3 : Codec.decAll cs ds with
    | none =>
      rw [h3] at h
      cases h
    | some r =>
      refine ⟨h2, rfl, fun r' e' => ?_⟩
      cases e'
      rfl
theorem side_post {a b c d e f : Int} {l : List Int}
    (hpre : PySem.Challenge.rw_waterways_s01_side.pre [.int a, .int b, .int c, .int d, .int e, .int f] = true)
    (h : l = PyWqatct.side a b c d e f) :
    PySem.Challenge.rw_waterways_s01_side.post [.int a, .int b, .int c, .int d, .int e, .int f] (ofPy (PyData.list (l.map PyData.int))) = true := by
  obtain ⟨_, k1, g1⟩ := take_int (os_pre_isSome hpre)
  obtain ⟨_, k2, g2⟩ := take_int k1
  obtain ⟨_, k3, g3⟩ := take_int k2
  obtain ⟨_, k4, g4⟩ := take_int k3
  obtain ⟨_, k5, g5⟩ := take_int k4
  obtain ⟨_, k6, g6⟩ := take_int k5
  refine os_post (g1 _ (g2 _ (g3 _ (g4 _ (g5 _ (g6 () rfl)))))) ?_
  exact os_same_list (congrArg _ h)
end Wz

namespace Wz
/-- A place's greater number without its sign, as the program asks it. -/
theorem big (x y : Int) : ((1048576 : Int) < if (if y < 0 then -y else y) > (if x < 0 then -x else x) then (if y < 0 then -y else y) else (if x < 0 then -x else x)) ↔ ¬ (In x ∧ In y) := by
  unfold In
  split <;> split <;> split <;> omega
theorem side_end_far {a b c d e f : Int}
    (h : (decide ((1048576 : Int) < if (if b < 0 then -b else b) > (if a < 0 then -a else a) then (if b < 0 then -b else b) else (if a < 0 then -a else a)) ||
      (decide ((1048576 : Int) < if (if d < 0 then -d else d) > (if c < 0 then -c else c) then (if d < 0 then -d else d) else (if c < 0 then -c else c)) ||
       decide ((1048576 : Int) < if (if f < 0 then -f else f) > (if e < 0 then -e else e) then (if f < 0 then -f else f) else (if e < 0 then -e else e)))) = true) :
    [-8] = PyWqatct.side a b c d e f := by
  simp only [Bool.or_eq_true, decide_eq_true_eq, big] at h
  refine (side_bad ?_).symm
  intro k
  rcases h with h | h | h
  · exact h ⟨k.1, k.2.1⟩
  · exact h ⟨k.2.2.1, k.2.2.2.1⟩
  · exact h ⟨k.2.2.2.2.1, k.2.2.2.2.2.1⟩
theorem side_end_one {a b c d e f : Int} (h : (a == c && b == d) = true) : [-8] = PyWqatct.side a b c d e f := by
  simp only [Bool.and_eq_true, beq_iff_eq] at h
  exact (side_bad (fun k => k.2.2.2.2.2.2 h)).symm
theorem side_end {a b c d e f x : Int}
    (h : (decide ((1048576 : Int) < if (if b < 0 then -b else b) > (if a < 0 then -a else a) then (if b < 0 then -b else b) else (if a < 0 then -a else a)) ||
      (decide ((1048576 : Int) < if (if d < 0 then -d else d) > (if c < 0 then -c else c) then (if d < 0 then -d else d) else (if c < 0 then -c else c)) ||
       decide ((1048576 : Int) < if (if f < 0 then -f else f) > (if e < 0 then -e else e) then (if f < 0 then -f else f) else (if e < 0 then -e else e)))) = false)
    (h2 : (a == c && b == d) = false)
    (h3 : x = if 0 < left a b c d e f then 1 else if left a b c d e f < 0 then 2 else 0) :
    [x] = PyWqatct.side a b c d e f := by
  simp only [Bool.or_eq_false_iff, decide_eq_false_iff_not, big, Classical.not_not] at h
  have n : ¬ (a = c ∧ b = d) := by
    intro k
    rw [k.1, k.2] at h2
    simp at h2
  rw [side_ok ⟨h.1.1, h.1.2, h.2.1.1, h.2.1.2, h.2.2.1, h.2.2.2, n⟩, h3]
theorem side_1 {L : Int} (h : 0 < L) : (1 : Int) = if 0 < L then 1 else if L < 0 then 2 else 0 := by rw [if_pos h]
theorem side_2 {L : Int} (h1 : ¬ 0 < L) (h : L < 0) : (2 : Int) = if 0 < L then 1 else if L < 0 then 2 else 0 := by rw [if_neg h1, if_pos h]
theorem side_0 {L : Int} (h1 : ¬ 0 < L) (h : ¬ L < 0) : (0 : Int) = if 0 < L then 1 else if L < 0 then 2 else 0 := by rw [if_neg h1, if_neg h]
end Wz
set_option maxRecDepth 100000 in
set_option maxHeartbeats 8000000 in
theorem PySem.Challenge.cw_waterways_s01_side_holds : PySem.Challenge.rw_waterways_s01_side.Holds := by
  open_ks with [.int 0, .int 0, .int 1, .int 0, .int 0, .int 0]
  all_goals first
    | exact Wz.side_post (l := [-8]) hpre (Wz.side_end_far (by assumption))
    | exact Wz.side_post (l := [-8]) hpre (Wz.side_end_one (by assumption))
    | exact Wz.side_post (l := [1]) hpre (Wz.side_end (by assumption) (by assumption) (Wz.side_1 (by assumption)))
    | exact Wz.side_post (l := [2]) hpre (Wz.side_end (by assumption) (by assumption) (Wz.side_2 (by assumption) (by assumption)))
    | exact Wz.side_post (l := [0]) hpre (Wz.side_end (by assumption) (by assumption) (Wz.side_0 (by assumption) (by assumption)))
#print axioms PySem.Challenge.cw_waterways_s01_side_holds
