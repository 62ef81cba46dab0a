import PyProof.Rows.All
import KE.OsGo
import PySem.Challenge.RW_waterways_s02_over
set_option Elab.async false
namespace Wz
open Rg
/-- A number of a place that may be handed in. -/
def In (z : Int) : Prop := -1048576 ≤ z ∧ z ≤ 1048576
theorem far (z : Int) : z.natAbs ≤ Rg.FAR ↔ In z := by
  unfold Rg.FAR In
  omega
theorem ptok (x y : Int) : (Pt.ok ⟨x, y⟩ = true) ↔ (In x ∧ In y) := by
  unfold Pt.ok
  simp only [Bool.and_eq_true, decide_eq_true_eq, far]
theorem ptne (a b c d : Int) : (((⟨a, b⟩ : Pt) != ⟨c, d⟩) = true) ↔ ¬ (a = c ∧ b = d) := by
  rw [bne_iff_ne, Ne, Pt.mk.injEq]
def left (px py qx qy cx cy : Int) : Int := (qx - px) * (cy - py) - (qy - py) * (cx - px)
theorem left_is (px py qx qy cx cy : Int) : leftOf ⟨px, py⟩ ⟨qx, qy⟩ ⟨cx, cy⟩ = left px py qx qy cx cy := rfl
theorem over_bad {px py qx qy cx cy dx dy : Int} (h : ¬ (In px ∧ In py ∧ In qx ∧ In qy ∧ In cx ∧ In cy ∧ In dx ∧ In dy ∧ ¬ (px = qx ∧ py = qy))) :
    PyWqatct.over px py qx qy cx cy dx dy = [-8] := by
  have n : ¬ ((Wqatct.Call.over ⟨px, py⟩ ⟨qx, qy⟩ ⟨cx, cy⟩ ⟨dx, dy⟩).ok = true) := by
    unfold Wqatct.Call.ok Wqatct.line
    simp only [Bool.and_eq_true, ptok, ptne]
    intro k
    exact h ⟨k.1.1.1, k.1.1.2, k.1.2.1.1, k.1.2.1.2, k.2.1.1, k.2.1.2, k.2.2.1, k.2.2.2, k.1.2.2⟩
  show (Wqatct.answer (.over ⟨px, py⟩ ⟨qx, qy⟩ ⟨cx, cy⟩ ⟨dx, dy⟩)).ret :: (Wqatct.answer (.over ⟨px, py⟩ ⟨qx, qy⟩ ⟨cx, cy⟩ ⟨dx, dy⟩)).nums.map WqatctNeutral.int = [-8]
  unfold Wqatct.answer
  rw [if_neg n]
  rfl
theorem pos_of {a b : Int} (h : ¬ (a = 0 ∧ b = 0)) : 0 < a * a + b * b := by
  have h1 : 0 ≤ a * a := by rcases Int.le_total 0 a with k | k
                            · exact Int.mul_nonneg k k
                            · exact Int.mul_nonneg_of_nonpos_of_nonpos k k
  have h2 : 0 ≤ b * b := by rcases Int.le_total 0 b with k | k
                            · exact Int.mul_nonneg k k
                            · exact Int.mul_nonneg_of_nonpos_of_nonpos k k
  by_cases ha : a = 0
  · have hb : b ≠ 0 := fun k => h ⟨ha, k⟩
    have : b * b ≠ 0 := Int.mul_ne_zero hb hb
    omega
  · have : a * a ≠ 0 := Int.mul_ne_zero ha ha
    omega
/-- Where the way meets the line, by two crosses: as the specification asks it. -/
theorem meets {px py qx qy cx cy dx dy s t : Int} (h : ¬ (px = qx ∧ py = qy))
    (hs : left px py qx qy cx cy = s) (ht : left px py qx qy dx dy = t) :
    (0 ≤ reach ⟨px, py⟩ ⟨qx, qy⟩ (along ⟨cx, cy⟩ ⟨dx, dy⟩ (-s) (t - s)) (t - s) ∧
      reach ⟨px, py⟩ ⟨qx, qy⟩ (along ⟨cx, cy⟩ ⟨dx, dy⟩ (-s) (t - s)) (t - s) ≤ (t - s) * dot (Pt.sub ⟨qx, qy⟩ ⟨px, py⟩) (Pt.sub ⟨qx, qy⟩ ⟨px, py⟩)) ↔
    (0 ≤ left cx cy dx dy px py ∧ left cx cy dx dy qx qy ≤ 0) := by
  have k0 : 0 < (qx - px) * (qx - px) + (qy - py) * (qy - py) := pos_of (by omega)
  have e1 : reach ⟨px, py⟩ ⟨qx, qy⟩ (along ⟨cx, cy⟩ ⟨dx, dy⟩ (-s) (t - s)) (t - s) = ((qx - px) * (qx - px) + (qy - py) * (qy - py)) * left cx cy dx dy px py := by
    subst hs ht
    simp only [reach, along, dot, Pt.sub, left]
    grind
  have e2 : (t - s) * dot (Pt.sub ⟨qx, qy⟩ ⟨px, py⟩) (Pt.sub ⟨qx, qy⟩ ⟨px, py⟩) - ((qx - px) * (qx - px) + (qy - py) * (qy - py)) * left cx cy dx dy px py = ((qx - px) * (qx - px) + (qy - py) * (qy - py)) * (- left cx cy dx dy qx qy) := by
    subst hs ht
    simp only [dot, Pt.sub, left]
    grind
  rw [e1]
  generalize left cx cy dx dy px py = L at *
  generalize left cx cy dx dy qx qy = M at *
  generalize (qx - px) * (qx - px) + (qy - py) * (qy - py) = K at *
  generalize (t - s) * dot (Pt.sub ⟨qx, qy⟩ ⟨px, py⟩) (Pt.sub ⟨qx, qy⟩ ⟨px, py⟩) = X at *
  have a1 : 0 ≤ K * L ↔ 0 ≤ L :=
    ⟨fun k => Int.nonneg_of_mul_nonneg_right k k0, fun k => Int.mul_nonneg (Int.le_of_lt k0) k⟩
  have a2 : 0 ≤ X - K * L ↔ 0 ≤ -M := by
    rw [e2]
    exact ⟨fun k => Int.nonneg_of_mul_nonneg_right k k0, fun k => Int.mul_nonneg (Int.le_of_lt k0) k⟩
  omega
theorem over_ok {px py qx qy cx cy dx dy : Int} (h : In px ∧ In py ∧ In qx ∧ In qy ∧ In cx ∧ In cy ∧ In dx ∧ In dy ∧ ¬ (px = qx ∧ py = qy)) :
    PyWqatct.over px py qx qy cx cy dx dy =
      if left px py qx qy cx cy ≤ 0 ∧ 0 < left px py qx qy dx dy ∧ 0 ≤ left cx cy dx dy px py ∧ left cx cy dx dy qx qy ≤ 0 then
        [1, (- left px py qx qy cx cy) / (Int.gcd (- left px py qx qy cx cy) (left px py qx qy dx dy - left px py qx qy cx cy) : Int),
          (left px py qx qy dx dy - left px py qx qy cx cy) / (Int.gcd (- left px py qx qy cx cy) (left px py qx qy dx dy - left px py qx qy cx cy) : Int)]
      else [0] := by
  have n : (Wqatct.Call.over ⟨px, py⟩ ⟨qx, qy⟩ ⟨cx, cy⟩ ⟨dx, dy⟩).ok = true := by
    unfold Wqatct.Call.ok Wqatct.line
    simp only [Bool.and_eq_true, ptok, ptne]
    exact ⟨⟨⟨h.1, h.2.1⟩, ⟨h.2.2.1, h.2.2.2.1⟩, h.2.2.2.2.2.2.2.2⟩, ⟨h.2.2.2.2.1, h.2.2.2.2.2.1⟩, ⟨h.2.2.2.2.2.2.1, h.2.2.2.2.2.2.2.1⟩⟩
  show (Wqatct.answer (.over ⟨px, py⟩ ⟨qx, qy⟩ ⟨cx, cy⟩ ⟨dx, dy⟩)).ret :: (Wqatct.answer (.over ⟨px, py⟩ ⟨qx, qy⟩ ⟨cx, cy⟩ ⟨dx, dy⟩)).nums.map WqatctNeutral.int = _
  unfold Wqatct.answer
  rw [if_pos n]
  unfold Wqatct.told
  simp only [Rg.over]
  rw [left_is, left_is]
  generalize hs : left px py qx qy cx cy = s
  generalize ht : left px py qx qy dx dy = t
  have mt := meets h.2.2.2.2.2.2.2.2 hs ht
  by_cases c1 : s ≤ 0 ∧ 0 < t
  · rw [if_pos c1]
    by_cases c2 : 0 ≤ left cx cy dx dy px py ∧ left cx cy dx dy qx qy ≤ 0
    · rw [if_pos (mt.mpr c2), if_pos ⟨c1.1, c1.2, c2⟩]
      have g : Int.gcd (-s) (t - s) = Nat.gcd (-s).toNat (t - s).toNat := by
        unfold Int.gcd
        congr 1 <;> omega
      have e1 : ((-s).toNat : Int) = -s := by omega
      have e2 : ((t - s).toNat : Int) = t - s := by omega
      rw [g]
      show [(1 : Int), (((-s).toNat / Nat.gcd (-s).toNat (t - s).toNat : Nat) : Int), (((t - s).toNat / Nat.gcd (-s).toNat (t - s).toNat : Nat) : Int)] = _
      rw [Int.natCast_ediv, Int.natCast_ediv, e1, e2]
    · rw [if_neg (fun k => c2 (mt.mp k)), if_neg (fun k => c2 k.2.2)]
      rfl
  · rw [if_neg c1, if_neg (fun k => c1 ⟨k.1, k.2.1⟩)]
    rfl
end Wz

open PySem PySem.W
/-! The request, number by number. -/
namespace Wz
theorem take_int {lo hi k : Int} {cs : List Codec} {ds : List WData} (h : (Codec.decAll (.int lo hi :: cs) (WData.int k :: ds)).isSome = true) :
    (lo ≤ k ∧ k ≤ hi) ∧ (Codec.decAll cs ds).isSome = true ∧ ∀ r, Codec.decAll cs ds = some r → Codec.decAll (.int lo hi :: cs) (WData.int k :: ds) = some (k, r) := by
  have e : Codec.decAll (.int lo hi :: cs) (WData.int k :: ds) = Codec.both Prod.mk (if Codec.inInt lo hi k = true then some k else none) (Codec.decAll cs ds) := rfl
  rw [e] at h ⊢
  cases h1 : Codec.inInt lo hi k with
  | false =>
    rw [h1] at h
    cases h
  | true =>
    rw [h1, if_pos rfl] at h
    have h2 := h1
    unfold Codec.inInt at h2
    simp only [Bool.and_eq_true, decide_eq_true_eq] at h2
    cases h3 : Codec.decAll cs ds with
    | none =>
      rw [h3] at h
      cases h
    | some r =>
      refine ⟨h2, rfl, fun r' e' => ?_⟩
      cases e'
      rfl
theorem over_post {a b c d e f g i : Int} {l : List Int}
    (hpre : PySem.Challenge.rw_waterways_s02_over.pre [.int a, .int b, .int c, .int d, .int e, .int f, .int g, .int i] = true)
    (h : l = PyWqatct.over a b c d e f g i) :
    PySem.Challenge.rw_waterways_s02_over.post [.int a, .int b, .int c, .int d, .int e, .int f, .int g, .int i] (ofPy (PyData.list (l.map PyData.int))) = true := by
  obtain ⟨_, k1, g1⟩ := take_int (os_pre_isSome hpre)
  obtain ⟨_, k2, g2⟩ := take_int k1
  obtain ⟨_, k3, g3⟩ := take_int k2
  obtain ⟨_, k4, g4⟩ := take_int k3
  obtain ⟨_, k5, g5⟩ := take_int k4
  obtain ⟨_, k6, g6⟩ := take_int k5
  obtain ⟨_, k7, g7⟩ := take_int k6
  obtain ⟨_, k8, g8⟩ := take_int k7
  refine os_post (g1 _ (g2 _ (g3 _ (g4 _ (g5 _ (g6 _ (g7 _ (g8 () rfl)))))))) ?_
  exact os_same_list (congrArg _ h)
/-- The program's own greatest common divisor, total and above 0. -/
def gcdz (a b : Int) : Int := if Int.gcd a b = 0 then 1 else (Int.gcd a b : Int)
theorem gcdz_pos (a b : Int) : 0 < gcdz a b := by
  unfold gcdz
  split <;> omega
theorem gcd_start (a b : Int) (h : 0 ≤ a) (k : 0 < b) : 0 ≤ a ∧ 0 ≤ b ∧ Int.gcd a b = Int.gcd a b ∧ (0 < a ∨ 0 < b) := ⟨h, Int.le_of_lt k, rfl, Or.inr k⟩
theorem gcd_turn {a0 b0 a b : Int} (h : Int.gcd a b = Int.gcd a0 b0) (ha : 0 ≤ a) (hb : 0 < b) :
    0 ≤ b ∧ 0 ≤ Int.fmod a b ∧ Int.gcd b (Int.fmod a b) = Int.gcd a0 b0 ∧ (0 < b ∨ 0 < Int.fmod a b) := by
  refine ⟨Int.le_of_lt hb, Int.fmod_nonneg_of_pos a hb, ?_, Or.inl hb⟩
  rw [Int.fmod_eq_emod_of_nonneg a (Int.le_of_lt hb), ← h]
  have e : (a % b).natAbs = a.natAbs % b.natAbs := by
    have e1 : (a % b) = ((a.natAbs % b.natAbs : Nat) : Int) := by
      rw [Int.natCast_emod, Int.natAbs_of_nonneg ha, Int.natAbs_of_nonneg (Int.le_of_lt hb)]
    rw [e1, Int.natAbs_natCast]
  show Nat.gcd b.natAbs (a % b).natAbs = Nat.gcd a.natAbs b.natAbs
  rw [e, Nat.gcd_comm, ← Nat.gcd_rec, Nat.gcd_comm]
theorem gcd_less {a b : Int} (hb : 0 < b) : (Int.fmod a b).toNat < b.toNat := by
  have h1 := Int.fmod_lt_of_pos a hb
  omega
theorem gcd_out {a0 b0 a b : Int} (h : Int.gcd a b = Int.gcd a0 b0) (ha : 0 ≤ a) (hb : b = 0) (hp : 0 < a ∨ 0 < b) : a = gcdz a0 b0 := by
  unfold gcdz
  rw [← h, hb, Int.gcd_zero_right]
  split <;> omega
/-- A place's greater number without its sign, as the program asks it. -/
theorem big (x y : Int) : ((1048576 : Int) < if (if y < 0 then -y else y) > (if x < 0 then -x else x) then (if y < 0 then -y else y) else (if x < 0 then -x else x)) ↔ ¬ (In x ∧ In y) := by
  unfold In
  split <;> split <;> split <;> omega
theorem over_end_far {a b c d e f g i : Int} (h : (decide ((1048576 : Int) < if (if b < 0 then -b else b) > (if a < 0 then -a else a) then (if b < 0 then -b else b) else (if a < 0 then -a else a)) || (decide ((1048576 : Int) < if (if d < 0 then -d else d) > (if c < 0 then -c else c) then (if d < 0 then -d else d) else (if c < 0 then -c else c)) || (decide ((1048576 : Int) < if (if f < 0 then -f else f) > (if e < 0 then -e else e) then (if f < 0 then -f else f) else (if e < 0 then -e else e)) || decide ((1048576 : Int) < if (if i < 0 then -i else i) > (if g < 0 then -g else g) then (if i < 0 then -i else i) else (if g < 0 then -g else g))))) = true) : [-8] = PyWqatct.over a b c d e f g i := by
  simp only [Bool.or_eq_true, decide_eq_true_eq, big] at h
  refine (over_bad ?_).symm
  intro k
  rcases h with h | h | h | h
  · exact h ⟨k.1, k.2.1⟩
  · exact h ⟨k.2.2.1, k.2.2.2.1⟩
  · exact h ⟨k.2.2.2.2.1, k.2.2.2.2.2.1⟩
  · exact h ⟨k.2.2.2.2.2.2.1, k.2.2.2.2.2.2.2.1⟩
theorem over_end_one {a b c d e f g i : Int} (h : (a == c && b == d) = true) : [-8] = PyWqatct.over a b c d e f g i := by
  simp only [Bool.and_eq_true, beq_iff_eq] at h
  exact (over_bad (fun k => k.2.2.2.2.2.2.2.2 h)).symm
theorem over_in {a b c d e f g i : Int} (h : (decide ((1048576 : Int) < if (if b < 0 then -b else b) > (if a < 0 then -a else a) then (if b < 0 then -b else b) else (if a < 0 then -a else a)) || (decide ((1048576 : Int) < if (if d < 0 then -d else d) > (if c < 0 then -c else c) then (if d < 0 then -d else d) else (if c < 0 then -c else c)) || (decide ((1048576 : Int) < if (if f < 0 then -f else f) > (if e < 0 then -e else e) then (if f < 0 then -f else f) else (if e < 0 then -e else e)) || decide ((1048576 : Int) < if (if i < 0 then -i else i) > (if g < 0 then -g else g) then (if i < 0 then -i else i) else (if g < 0 then -g else g))))) = false) (h2 : (a == c && b == d) = false) :
    In a ∧ In b ∧ In c ∧ In d ∧ In e ∧ In f ∧ In g ∧ In i ∧ ¬ (a = c ∧ b = d) := by
  simp only [Bool.or_eq_false_iff, decide_eq_false_iff_not, big, Classical.not_not] at h
  have n : ¬ (a = c ∧ b = d) := by
    intro k
    rw [k.1, k.2] at h2
    simp at h2
  exact ⟨h.1.1, h.1.2, h.2.1.1, h.2.1.2, h.2.2.1.1, h.2.2.1.2, h.2.2.2.1, h.2.2.2.2, n⟩
theorem over_not {a b c d e f g i : Int} (h : (decide ((1048576 : Int) < if (if b < 0 then -b else b) > (if a < 0 then -a else a) then (if b < 0 then -b else b) else (if a < 0 then -a else a)) || (decide ((1048576 : Int) < if (if d < 0 then -d else d) > (if c < 0 then -c else c) then (if d < 0 then -d else d) else (if c < 0 then -c else c)) || (decide ((1048576 : Int) < if (if f < 0 then -f else f) > (if e < 0 then -e else e) then (if f < 0 then -f else f) else (if e < 0 then -e else e)) || decide ((1048576 : Int) < if (if i < 0 then -i else i) > (if g < 0 then -g else g) then (if i < 0 then -i else i) else (if g < 0 then -g else g))))) = false) (h2 : (a == c && b == d) = false)
    (n : - left a b c d e f < 0 ∨ left a b c d g i ≤ 0 ∨ ¬ 0 ≤ left e f g i a b ∨ ¬ left e f g i c d ≤ 0) : [0] = PyWqatct.over a b c d e f g i := by
  rw [over_ok (over_in h h2), if_neg]
  omega
theorem over_yes {a b c d e f g i : Int} (h : (decide ((1048576 : Int) < if (if b < 0 then -b else b) > (if a < 0 then -a else a) then (if b < 0 then -b else b) else (if a < 0 then -a else a)) || (decide ((1048576 : Int) < if (if d < 0 then -d else d) > (if c < 0 then -c else c) then (if d < 0 then -d else d) else (if c < 0 then -c else c)) || (decide ((1048576 : Int) < if (if f < 0 then -f else f) > (if e < 0 then -e else e) then (if f < 0 then -f else f) else (if e < 0 then -e else e)) || decide ((1048576 : Int) < if (if i < 0 then -i else i) > (if g < 0 then -g else g) then (if i < 0 then -i else i) else (if g < 0 then -g else g))))) = false) (h2 : (a == c && b == d) = false)
    (n1 : ¬ - left a b c d e f < 0) (n2 : ¬ left a b c d g i ≤ 0) (n3 : 0 ≤ left e f g i a b) (n4 : left e f g i c d ≤ 0) :
    [1, (- left a b c d e f).fdiv (gcdz (- left a b c d e f) (- left a b c d e f + left a b c d g i)),
      (- left a b c d e f + left a b c d g i).fdiv (gcdz (- left a b c d e f) (- left a b c d e f + left a b c d g i))] = PyWqatct.over a b c d e f g i := by
  rw [over_ok (over_in h h2), if_pos ⟨by omega, by omega, n3, n4⟩]
  generalize left a b c d e f = s at *
  generalize left a b c d g i = t at *
  have e : -s + t = t - s := by omega
  have z : Int.gcd (-s) (t - s) ≠ 0 := by
    intro k
    have := (Int.gcd_eq_zero_iff.mp k).2
    omega
  have q : gcdz (-s) (t - s) = (Int.gcd (-s) (t - s) : Int) := by
    unfold gcdz
    rw [if_neg z]
  rw [e, q, Int.fdiv_eq_ediv_of_nonneg _ (by omega), Int.fdiv_eq_ediv_of_nonneg _ (by omega)]
end Wz
set_option maxRecDepth 100000 in
set_option maxHeartbeats 16000000 in
theorem PySem.Challenge.cw_waterways_s02_over_holds : PySem.Challenge.rw_waterways_s02_over.Holds := by
  k_with "call ref" => k_call_by "common_divisor" Wz.gcdz (fun (a b : Int) => 0 ≤ a ∧ 0 < b)
  k_with "fact common_divisor" => exact Wz.gcdz_pos
  k_with "tree" => exact Wz.gcd_out (by assumption) (by omega) (by omega) (by omega)
  k_with "state" => first
    | exact Wz.gcd_start _ _ (by omega) (by omega)
    | exact Wz.gcd_turn (by assumption) (by omega) (by omega)
  k_with "measure" => exact Wz.gcd_less (by omega)
  k_with "exec While Compare cons nil" => k_while_given ["a!", "b!"] (fun a0 b0 _ a b => 0 ≤ a ∧ 0 ≤ b ∧ Int.gcd a b = Int.gcd a0 b0 ∧ (0 < a ∨ 0 < b)) (fun _ _ _ a b => b.toNat) "a" "b"
  open_ks with [.int 0, .int 0, .int 1, .int 0, .int 0, .int 0, .int 0, .int 0]
  all_goals first
    | exact Wz.over_post (l := [-8]) hpre (Wz.over_end_far (by assumption))
    | exact Wz.over_post (l := [-8]) hpre (Wz.over_end_one (by assumption))
    | exact Wz.over_post (l := [0]) hpre (Wz.over_not (by assumption) (by assumption) (Or.inl (by assumption)))
    | exact Wz.over_post (l := [0]) hpre (Wz.over_not (by assumption) (by assumption) (Or.inr (Or.inl (by assumption))))
    | exact Wz.over_post (l := [0]) hpre (Wz.over_not (by assumption) (by assumption) (Or.inr (Or.inr (Or.inl (by assumption)))))
    | exact Wz.over_post (l := [0]) hpre (Wz.over_not (by assumption) (by assumption) (Or.inr (Or.inr (Or.inr (by assumption)))))
    | exact Wz.over_post (l := [_, _, _]) hpre (Wz.over_yes (by assumption) (by assumption) (by assumption) (by assumption) (by assumption) (by assumption))
#print axioms PySem.Challenge.cw_waterways_s02_over_holds
