import PyProof.Rows.All
import KE.OsGo
import PySem.Challenge.RW_waterways_s03_near
set_option Elab.async false
namespace Wz
open Rg
def In (z : Int) : Prop := -1048576 ≤ z ∧ z ≤ 1048576
theorem far (z : Int) : z.natAbs ≤ Rg.FAR ↔ In z := by
  unfold Rg.FAR In
  omega
theorem ptok (x y : Int) : (Pt.ok ⟨x, y⟩ = true) ↔ (In x ∧ In y) := by
  unfold Pt.ok
  simp only [Bool.and_eq_true, decide_eq_true_eq, far]
theorem ptne (a b c d : Int) : (((⟨a, b⟩ : Pt) != ⟨c, d⟩) = true) ↔ ¬ (a = c ∧ b = d) := by
  rw [bne_iff_ne, Ne, Pt.mk.injEq]
def left (px py qx qy cx cy : Int) : Int := (qx - px) * (cy - py) - (qy - py) * (cx - px)
/-- An answer's list: the one number of a refusal, or what is told. -/
theorem step_bad {c : Wqatct.Call} (h : ¬ c.ok = true) :
    (Wqatct.answer c).ret :: (Wqatct.answer c).nums.map WqatctNeutral.int = [-8] := by
  unfold Wqatct.answer
  rw [if_neg h]
  rfl
theorem step_ok {c : Wqatct.Call} (h : c.ok = true) :
    (Wqatct.answer c).ret :: (Wqatct.answer c).nums.map WqatctNeutral.int = (Wqatct.told c).ret :: (Wqatct.told c).nums.map WqatctNeutral.int := by
  unfold Wqatct.answer
  rw [if_pos h]
/-! near -/
theorem near_bad {px py qx qy cx cy : Int} (h : ¬ (In px ∧ In py ∧ In qx ∧ In qy ∧ In cx ∧ In cy)) : PyWqatct.near px py qx qy cx cy = [-8] := by
  refine step_bad (c := .near ⟨px, py⟩ ⟨qx, qy⟩ ⟨cx, cy⟩) ?_
  unfold Wqatct.Call.ok
  simp only [Bool.and_eq_true, ptok]
  intro k
  exact h ⟨k.1.1, k.1.2, k.2.1.1, k.2.1.2, k.2.2.1, k.2.2.2⟩
theorem near_told {px py qx qy cx cy : Int} (h : In px ∧ In py ∧ In qx ∧ In qy ∧ In cx ∧ In cy) :
    PyWqatct.near px py qx qy cx cy = [0, ((Rg.near ⟨px, py⟩ ⟨qx, qy⟩ ⟨cx, cy⟩).1 : Int), ((Rg.near ⟨px, py⟩ ⟨qx, qy⟩ ⟨cx, cy⟩).2 : Int)] := by
  refine (step_ok (c := .near ⟨px, py⟩ ⟨qx, qy⟩ ⟨cx, cy⟩) ?_).trans rfl
  unfold Wqatct.Call.ok
  simp only [Bool.and_eq_true, ptok]
  exact ⟨⟨h.1, h.2.1⟩, ⟨h.2.2.1, h.2.2.2.1⟩, h.2.2.2.2.1, h.2.2.2.2.2⟩
theorem sq (a b : Int) : 0 ≤ a * a + b * b := by
  have h1 : 0 ≤ a * a := by rcases Int.le_total 0 a with k | k
                            · exact Int.mul_nonneg k k
                            · exact Int.mul_nonneg_of_nonpos_of_nonpos k k
  have h2 : 0 ≤ b * b := by rcases Int.le_total 0 b with k | k
                            · exact Int.mul_nonneg k k
                            · exact Int.mul_nonneg_of_nonpos_of_nonpos k k
  omega
theorem sq1 (a : Int) : 0 ≤ a * a := by
  have := sq a 0
  omega
/-- The square of the distance, as a pair of whole numbers. -/
theorem near_p {px py qx qy cx cy : Int} (h : (qx - px) * (cx - px) + (qy - py) * (cy - py) ≤ 0) :
    Rg.near ⟨px, py⟩ ⟨qx, qy⟩ ⟨cx, cy⟩ = (((cx - px) * (cx - px) + (cy - py) * (cy - py)).toNat, 1) := by
  unfold Rg.near
  dsimp only
  rw [if_pos (show Rg.dot (Pt.sub ⟨qx, qy⟩ ⟨px, py⟩) (Pt.sub ⟨cx, cy⟩ ⟨px, py⟩) ≤ 0 from h)]
  rfl
theorem near_q {px py qx qy cx cy : Int} (h0 : ¬ (qx - px) * (cx - px) + (qy - py) * (cy - py) ≤ 0)
    (h : (qx - px) * (qx - px) + (qy - py) * (qy - py) ≤ (qx - px) * (cx - px) + (qy - py) * (cy - py)) :
    Rg.near ⟨px, py⟩ ⟨qx, qy⟩ ⟨cx, cy⟩ = (((cx - qx) * (cx - qx) + (cy - qy) * (cy - qy)).toNat, 1) := by
  unfold Rg.near
  dsimp only
  rw [if_neg (show ¬ Rg.dot (Pt.sub ⟨qx, qy⟩ ⟨px, py⟩) (Pt.sub ⟨cx, cy⟩ ⟨px, py⟩) ≤ 0 from h0),
    if_pos (show Rg.dot (Pt.sub ⟨qx, qy⟩ ⟨px, py⟩) (Pt.sub ⟨qx, qy⟩ ⟨px, py⟩) ≤ Rg.dot (Pt.sub ⟨qx, qy⟩ ⟨px, py⟩) (Pt.sub ⟨cx, cy⟩ ⟨px, py⟩) from h)]
  rfl
theorem near_m {px py qx qy cx cy : Int} (h0 : ¬ (qx - px) * (cx - px) + (qy - py) * (cy - py) ≤ 0)
    (h : ¬ (qx - px) * (qx - px) + (qy - py) * (qy - py) ≤ (qx - px) * (cx - px) + (qy - py) * (cy - py)) :
    Rg.near ⟨px, py⟩ ⟨qx, qy⟩ ⟨cx, cy⟩ =
      ((left px py qx qy cx cy * left px py qx qy cx cy).toNat / Nat.gcd (left px py qx qy cx cy * left px py qx qy cx cy).toNat ((qx - px) * (qx - px) + (qy - py) * (qy - py)).toNat,
       ((qx - px) * (qx - px) + (qy - py) * (qy - py)).toNat / Nat.gcd (left px py qx qy cx cy * left px py qx qy cx cy).toNat ((qx - px) * (qx - px) + (qy - py) * (qy - py)).toNat) := by
  unfold Rg.near
  dsimp only
  rw [if_neg (show ¬ Rg.dot (Pt.sub ⟨qx, qy⟩ ⟨px, py⟩) (Pt.sub ⟨cx, cy⟩ ⟨px, py⟩) ≤ 0 from h0),
    if_neg (show ¬ Rg.dot (Pt.sub ⟨qx, qy⟩ ⟨px, py⟩) (Pt.sub ⟨qx, qy⟩ ⟨px, py⟩) ≤ Rg.dot (Pt.sub ⟨qx, qy⟩ ⟨px, py⟩) (Pt.sub ⟨cx, cy⟩ ⟨px, py⟩) from h)]
  rfl
theorem prem {a b c d e f : Int} (h0 : ¬ (c - a) * (e - a) + (d - b) * (f - b) ≤ 0) (h1 : ¬ 0 ≤ (c - a) * (e - c) + (d - b) * (f - d)) :
    0 ≤ ((c - a) * (f - b) - (d - b) * (e - a)) * ((c - a) * (f - b) - (d - b) * (e - a)) ∧ 0 < (c - a) * (c - a) + (d - b) * (d - b) := by
  refine ⟨sq1 _, ?_⟩
  have e1 : (c - a) * (c - a) + (d - b) * (d - b) = ((c - a) * (e - a) + (d - b) * (f - b)) - ((c - a) * (e - c) + (d - b) * (f - d)) := by grind
  omega
theorem apart {a b c d e f : Int} : (c - a) * (e - a) + (d - b) * (f - b) - ((c - a) * (c - a) + (d - b) * (d - b)) = (c - a) * (e - c) + (d - b) * (f - d) := by grind
end Wz

open PySem PySem.W
/-! The request, number by number. -/
namespace Wz
theorem take_int {lo hi k : Int} {cs : List Codec} {ds : List WData} (h : (Codec.decAll (.int lo hi :: cs) (WData.int k :: ds)).isSome = true) :
    (lo ≤ k ∧ k ≤ hi) ∧ (Codec.decAll cs ds).isSome = true ∧ ∀ r, Codec.decAll cs ds = some r → Codec.decAll (.int lo hi :: cs) (WData.int k :: ds) = some (k, r) := by
  have e : Codec.decAll (.int lo hi :: cs) (WData.int k :: ds) = Codec.both Prod.mk (if Codec.inInt lo hi k = true then some k else none) (Codec.decAll cs ds) := rfl
  rw [e] at h ⊢
  cases h1 : Codec.inInt lo hi k with
  | false =>
    rw [h1] at h
    cases h
  | true =>
    rw [h1, if_pos rfl] at h
    have h2 := h1
    unfold Codec.inInt at h2
    simp only [Bool.and_eq_true, decide_eq_true_eq] at h2
    cases h3 : Codec.decAll cs ds with
    | none =>
      rw [h3] at h
      cases h
    | some r =>
      refine ⟨h2, rfl, fun r' e' => ?_⟩
      cases e'
      rfl
theorem near_post {a b c d e f : Int} {l : List Int}
    (hpre : PySem.Challenge.rw_waterways_s03_near.pre [.int a, .int b, .int c, .int d, .int e, .int f] = true)
    (h : l = PyWqatct.near a b c d e f) :
    PySem.Challenge.rw_waterways_s03_near.post [.int a, .int b, .int c, .int d, .int e, .int f] (ofPy (PyData.list (l.map PyData.int))) = true := by
  obtain ⟨_, k1, g1⟩ := take_int (os_pre_isSome hpre)
  obtain ⟨_, k2, g2⟩ := take_int k1
  obtain ⟨_, k3, g3⟩ := take_int k2
  obtain ⟨_, k4, g4⟩ := take_int k3
  obtain ⟨_, k5, g5⟩ := take_int k4
  obtain ⟨_, k6, g6⟩ := take_int k5
  refine os_post (g1 _ (g2 _ (g3 _ (g4 _ (g5 _ (g6 () rfl)))))) ?_
  exact os_same_list (congrArg _ h)
/-- The program's own greatest common divisor, total and above 0. -/
def gcdz (a b : Int) : Int := if Int.gcd a b = 0 then 1 else (Int.gcd a b : Int)
theorem gcdz_pos (a b : Int) : 0 < gcdz a b := by
  unfold gcdz
  split <;> omega
theorem gcd_start (a b : Int) (h : 0 ≤ a) (k : 0 < b) : 0 ≤ a ∧ 0 ≤ b ∧ Int.gcd a b = Int.gcd a b ∧ (0 < a ∨ 0 < b) := ⟨h, Int.le_of_lt k, rfl, Or.inr k⟩
theorem gcd_turn {a0 b0 a b : Int} (h : Int.gcd a b = Int.gcd a0 b0) (ha : 0 ≤ a) (hb : 0 < b) :
    0 ≤ b ∧ 0 ≤ Int.fmod a b ∧ Int.gcd b (Int.fmod a b) = Int.gcd a0 b0 ∧ (0 < b ∨ 0 < Int.fmod a b) := by
  refine ⟨Int.le_of_lt hb, Int.fmod_nonneg_of_pos a hb, ?_, Or.inl hb⟩
  rw [Int.fmod_eq_emod_of_nonneg a (Int.le_of_lt hb), ← h]
  have e : (a % b).natAbs = a.natAbs % b.natAbs := by
    have e1 : (a % b) = ((a.natAbs % b.natAbs : Nat) : Int) := by
      rw [Int.natCast_emod, Int.natAbs_of_nonneg ha, Int.natAbs_of_nonneg (Int.le_of_lt hb)]
    rw [e1, Int.natAbs_natCast]
  show Nat.gcd b.natAbs (a % b).natAbs = Nat.gcd a.natAbs b.natAbs
  rw [e, Nat.gcd_comm, ← Nat.gcd_rec, Nat.gcd_comm]
theorem gcd_less {a b : Int} (hb : 0 < b) : (Int.fmod a b).toNat < b.toNat := by
  have h1 := Int.fmod_lt_of_pos a hb
  omega
theorem gcd_out {a0 b0 a b : Int} (h : Int.gcd a b = Int.gcd a0 b0) (ha : 0 ≤ a) (hb : b = 0) (hp : 0 < a ∨ 0 < b) : a = gcdz a0 b0 := by
  unfold gcdz
  rw [← h, hb, Int.gcd_zero_right]
  split <;> omega
/-- A place's greater number without its sign, as the program asks it. -/
theorem big (x y : Int) : ((1048576 : Int) < if (if y < 0 then -y else y) > (if x < 0 then -x else x) then (if y < 0 then -y else y) else (if x < 0 then -x else x)) ↔ ¬ (In x ∧ In y) := by
  unfold In
  split <;> split <;> split <;> omega
theorem near_end_far {a b c d e f : Int} (h : (decide ((1048576 : Int) < if (if b < 0 then -b else b) > (if a < 0 then -a else a) then (if b < 0 then -b else b) else (if a < 0 then -a else a)) || (decide ((1048576 : Int) < if (if d < 0 then -d else d) > (if c < 0 then -c else c) then (if d < 0 then -d else d) else (if c < 0 then -c else c)) || decide ((1048576 : Int) < if (if f < 0 then -f else f) > (if e < 0 then -e else e) then (if f < 0 then -f else f) else (if e < 0 then -e else e)))) = true) : [-8] = PyWqatct.near a b c d e f := by
  simp only [Bool.or_eq_true, decide_eq_true_eq, big] at h
  refine (near_bad ?_).symm
  intro k
  rcases h with h | h | h
  · exact h ⟨k.1, k.2.1⟩
  · exact h ⟨k.2.2.1, k.2.2.2.1⟩
  · exact h ⟨k.2.2.2.2.1, k.2.2.2.2.2⟩
theorem near_in {a b c d e f : Int} (h : (decide ((1048576 : Int) < if (if b < 0 then -b else b) > (if a < 0 then -a else a) then (if b < 0 then -b else b) else (if a < 0 then -a else a)) || (decide ((1048576 : Int) < if (if d < 0 then -d else d) > (if c < 0 then -c else c) then (if d < 0 then -d else d) else (if c < 0 then -c else c)) || decide ((1048576 : Int) < if (if f < 0 then -f else f) > (if e < 0 then -e else e) then (if f < 0 then -f else f) else (if e < 0 then -e else e)))) = false) : In a ∧ In b ∧ In c ∧ In d ∧ In e ∧ In f := by
  simp only [Bool.or_eq_false_iff, decide_eq_false_iff_not, big, Classical.not_not] at h
  exact ⟨h.1.1, h.1.2, h.2.1.1, h.2.1.2, h.2.2.1, h.2.2.2⟩
theorem near_end_p {a b c d e f : Int} (h : (decide ((1048576 : Int) < if (if b < 0 then -b else b) > (if a < 0 then -a else a) then (if b < 0 then -b else b) else (if a < 0 then -a else a)) || (decide ((1048576 : Int) < if (if d < 0 then -d else d) > (if c < 0 then -c else c) then (if d < 0 then -d else d) else (if c < 0 then -c else c)) || decide ((1048576 : Int) < if (if f < 0 then -f else f) > (if e < 0 then -e else e) then (if f < 0 then -f else f) else (if e < 0 then -e else e)))) = false) (h0 : (c - a) * (e - a) + (d - b) * (f - b) ≤ 0) :
    [0, (e - a) * (e - a) + (f - b) * (f - b), 1] = PyWqatct.near a b c d e f := by
  rw [near_told (near_in h), near_p h0]
  dsimp only
  rw [Int.toNat_of_nonneg (sq _ _)]
  rfl
theorem near_end_q {a b c d e f : Int} (h : (decide ((1048576 : Int) < if (if b < 0 then -b else b) > (if a < 0 then -a else a) then (if b < 0 then -b else b) else (if a < 0 then -a else a)) || (decide ((1048576 : Int) < if (if d < 0 then -d else d) > (if c < 0 then -c else c) then (if d < 0 then -d else d) else (if c < 0 then -c else c)) || decide ((1048576 : Int) < if (if f < 0 then -f else f) > (if e < 0 then -e else e) then (if f < 0 then -f else f) else (if e < 0 then -e else e)))) = false) (h0 : ¬ (c - a) * (e - a) + (d - b) * (f - b) ≤ 0) (h1 : 0 ≤ (c - a) * (e - c) + (d - b) * (f - d)) :
    [0, (e - c) * (e - c) + (f - d) * (f - d), 1] = PyWqatct.near a b c d e f := by
  have g := @apart a b c d e f
  rw [near_told (near_in h), near_q h0 (by omega)]
  dsimp only
  rw [Int.toNat_of_nonneg (sq _ _)]
  rfl
/-- A fraction brought to lowest terms by the program's own divisor. -/
theorem low {n m : Int} (h : 0 ≤ n) (k : 0 < m) : n.fdiv (gcdz n m) = ((n.toNat / Nat.gcd n.toNat m.toNat : Nat) : Int) ∧ m.fdiv (gcdz n m) = ((m.toNat / Nat.gcd n.toNat m.toNat : Nat) : Int) := by
  have z : Int.gcd n m ≠ 0 := by
    intro k
    have := (Int.gcd_eq_zero_iff.mp k).2
    omega
  have g : Int.gcd n m = Nat.gcd n.toNat m.toNat := by
    unfold Int.gcd
    congr 1 <;> omega
  have q : gcdz n m = (Nat.gcd n.toNat m.toNat : Int) := by
    unfold gcdz
    rw [if_neg z, g]
  rw [q, Int.fdiv_eq_ediv_of_nonneg _ (by omega), Int.fdiv_eq_ediv_of_nonneg _ (by omega), Int.natCast_ediv, Int.natCast_ediv,
    Int.toNat_of_nonneg h, Int.toNat_of_nonneg (Int.le_of_lt k)]
  exact ⟨rfl, rfl⟩
theorem near_end_m {a b c d e f : Int} (h : (decide ((1048576 : Int) < if (if b < 0 then -b else b) > (if a < 0 then -a else a) then (if b < 0 then -b else b) else (if a < 0 then -a else a)) || (decide ((1048576 : Int) < if (if d < 0 then -d else d) > (if c < 0 then -c else c) then (if d < 0 then -d else d) else (if c < 0 then -c else c)) || decide ((1048576 : Int) < if (if f < 0 then -f else f) > (if e < 0 then -e else e) then (if f < 0 then -f else f) else (if e < 0 then -e else e)))) = false) (h0 : ¬ (c - a) * (e - a) + (d - b) * (f - b) ≤ 0) (h1 : ¬ 0 ≤ (c - a) * (e - c) + (d - b) * (f - d)) :
    [0, (((c - a) * (f - b) - (d - b) * (e - a)) * ((c - a) * (f - b) - (d - b) * (e - a))).fdiv (gcdz (((c - a) * (f - b) - (d - b) * (e - a)) * ((c - a) * (f - b) - (d - b) * (e - a))) ((c - a) * (c - a) + (d - b) * (d - b))), ((c - a) * (c - a) + (d - b) * (d - b)).fdiv (gcdz (((c - a) * (f - b) - (d - b) * (e - a)) * ((c - a) * (f - b) - (d - b) * (e - a))) ((c - a) * (c - a) + (d - b) * (d - b)))] = PyWqatct.near a b c d e f := by
  have g := @apart a b c d e f
  have p := prem h0 h1
  rw [near_told (near_in h), near_m h0 (by omega), (low p.1 p.2).1, (low p.1 p.2).2]
  rfl
end Wz
set_option maxRecDepth 100000 in
set_option maxHeartbeats 16000000 in
theorem PySem.Challenge.cw_waterways_s03_near_holds : PySem.Challenge.rw_waterways_s03_near.Holds := by
  k_with "call ref" => (have cbP := Wz.prem (by assumption) (by assumption); k_call_by "common_divisor" Wz.gcdz (fun (a b : Int) => 0 ≤ a ∧ 0 < b))
  k_with "fact common_divisor" => exact Wz.gcdz_pos
  k_with "tree" => exact Wz.gcd_out (by assumption) (by omega) (by omega) (by omega)
  k_with "state" => first
    | exact Wz.gcd_start _ _ (by omega) (by omega)
    | exact Wz.gcd_turn (by assumption) (by omega) (by omega)
  k_with "measure" => exact Wz.gcd_less (by omega)
  k_with "exec While Compare cons nil" => k_while_given ["a!", "b!"] (fun a0 b0 _ a b => 0 ≤ a ∧ 0 ≤ b ∧ Int.gcd a b = Int.gcd a0 b0 ∧ (0 < a ∨ 0 < b)) (fun _ _ _ a b => b.toNat) "a" "b"
  open_ks with [.int 0, .int 0, .int 0, .int 0, .int 0, .int 0]
  all_goals first
    | exact Wz.near_post (l := [-8]) hpre (Wz.near_end_far (by assumption))
    | exact Wz.near_post (l := [_, _, _]) hpre (Wz.near_end_p (by assumption) (by assumption))
    | exact Wz.near_post (l := [_, _, _]) hpre (Wz.near_end_q (by assumption) (by assumption) (by assumption))
    | exact Wz.near_post (l := [_, _, _]) hpre (Wz.near_end_m (by assumption) (by assumption) (by assumption))
#print axioms PySem.Challenge.cw_waterways_s03_near_holds
