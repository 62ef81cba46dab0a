import PyProof.Rows.All
import KE.OsGo
import PySem.Challenge.RW_waterways_s04_nearer
set_option Elab.async false
namespace Wz
open Rg
def In (z : Int) : Prop := -1048576 ≤ z ∧ z ≤ 1048576
theorem far (z : Int) : z.natAbs ≤ Rg.FAR ↔ In z := by
  unfold Rg.FAR In
  omega
theorem ptok (x y : Int) : (Pt.ok ⟨x, y⟩ = true) ↔ (In x ∧ In y) := by
  unfold Pt.ok
  simp only [Bool.and_eq_true, decide_eq_true_eq, far]
theorem ptne (a b c d : Int) : (((⟨a, b⟩ : Pt) != ⟨c, d⟩) = true) ↔ ¬ (a = c ∧ b = d) := by
  rw [bne_iff_ne, Ne, Pt.mk.injEq]
def left (px py qx qy cx cy : Int) : Int := (qx - px) * (cy - py) - (qy - py) * (cx - px)
/-- An answer's list: the one number of a refusal, or what is told. -/
theorem step_bad {c : Wqatct.Call} (h : ¬ c.ok = true) :
    (Wqatct.answer c).ret :: (Wqatct.answer c).nums.map WqatctNeutral.int = [-8] := by
  unfold Wqatct.answer
  rw [if_neg h]
  rfl
theorem step_ok {c : Wqatct.Call} (h : c.ok = true) :
    (Wqatct.answer c).ret :: (Wqatct.answer c).nums.map WqatctNeutral.int = (Wqatct.told c).ret :: (Wqatct.told c).nums.map WqatctNeutral.int := by
  unfold Wqatct.answer
  rw [if_pos h]
/-! near -/
theorem near_bad {px py qx qy cx cy : Int} (h : ¬ (In px ∧ In py ∧ In qx ∧ In qy ∧ In cx ∧ In cy)) : PyWqatct.near px py qx qy cx cy = [-8] := by
  refine step_bad (c := .near ⟨px, py⟩ ⟨qx, qy⟩ ⟨cx, cy⟩) ?_
  unfold Wqatct.Call.ok
  simp only [Bool.and_eq_true, ptok]
  intro k
  exact h ⟨k.1.1, k.1.2, k.2.1.1, k.2.1.2, k.2.2.1, k.2.2.2⟩
theorem near_told {px py qx qy cx cy : Int} (h : In px ∧ In py ∧ In qx ∧ In qy ∧ In cx ∧ In cy) :
    PyWqatct.near px py qx qy cx cy = [0, ((Rg.near ⟨px, py⟩ ⟨qx, qy⟩ ⟨cx, cy⟩).1 : Int), ((Rg.near ⟨px, py⟩ ⟨qx, qy⟩ ⟨cx, cy⟩).2 : Int)] := by
  refine (step_ok (c := .near ⟨px, py⟩ ⟨qx, qy⟩ ⟨cx, cy⟩) ?_).trans rfl
  unfold Wqatct.Call.ok
  simp only [Bool.and_eq_true, ptok]
  exact ⟨⟨h.1, h.2.1⟩, ⟨h.2.2.1, h.2.2.2.1⟩, h.2.2.2.2.1, h.2.2.2.2.2⟩
theorem sq (a b : Int) : 0 ≤ a * a + b * b := by
  have h1 : 0 ≤ a * a := by rcases Int.le_total 0 a with k | k
                            · exact Int.mul_nonneg k k
                            · exact Int.mul_nonneg_of_nonpos_of_nonpos k k
  have h2 : 0 ≤ b * b := by rcases Int.le_total 0 b with k | k
                            · exact Int.mul_nonneg k k
                            · exact Int.mul_nonneg_of_nonpos_of_nonpos k k
  omega
theorem sq1 (a : Int) : 0 ≤ a * a := by
  have := sq a 0
  omega
/-- The square of the distance, as a pair of whole numbers. -/
theorem near_p {px py qx qy cx cy : Int} (h : (qx - px) * (cx - px) + (qy - py) * (cy - py) ≤ 0) :
    Rg.near ⟨px, py⟩ ⟨qx, qy⟩ ⟨cx, cy⟩ = (((cx - px) * (cx - px) + (cy - py) * (cy - py)).toNat, 1) := by
  unfold Rg.near
  dsimp only
  rw [if_pos (show Rg.dot (Pt.sub ⟨qx, qy⟩ ⟨px, py⟩) (Pt.sub ⟨cx, cy⟩ ⟨px, py⟩) ≤ 0 from h)]
  rfl
theorem near_q {px py qx qy cx cy : Int} (h0 : ¬ (qx - px) * (cx - px) + (qy - py) * (cy - py) ≤ 0)
    (h : (qx - px) * (qx - px) + (qy - py) * (qy - py) ≤ (qx - px) * (cx - px) + (qy - py) * (cy - py)) :
    Rg.near ⟨px, py⟩ ⟨qx, qy⟩ ⟨cx, cy⟩ = (((cx - qx) * (cx - qx) + (cy - qy) * (cy - qy)).toNat, 1) := by
  unfold Rg.near
  dsimp only
  rw [if_neg (show ¬ Rg.dot (Pt.sub ⟨qx, qy⟩ ⟨px, py⟩) (Pt.sub ⟨cx, cy⟩ ⟨px, py⟩) ≤ 0 from h0),
    if_pos (show Rg.dot (Pt.sub ⟨qx, qy⟩ ⟨px, py⟩) (Pt.sub ⟨qx, qy⟩ ⟨px, py⟩) ≤ Rg.dot (Pt.sub ⟨qx, qy⟩ ⟨px, py⟩) (Pt.sub ⟨cx, cy⟩ ⟨px, py⟩) from h)]
  rfl
theorem near_m {px py qx qy cx cy : Int} (h0 : ¬ (qx - px) * (cx - px) + (qy - py) * (cy - py) ≤ 0)
    (h : ¬ (qx - px) * (qx - px) + (qy - py) * (qy - py) ≤ (qx - px) * (cx - px) + (qy - py) * (cy - py)) :
    Rg.near ⟨px, py⟩ ⟨qx, qy⟩ ⟨cx, cy⟩ =
      ((left px py qx qy cx cy * left px py qx qy cx cy).toNat / Nat.gcd (left px py qx qy cx cy * left px py qx qy cx cy).toNat ((qx - px) * (qx - px) + (qy - py) * (qy - py)).toNat,
       ((qx - px) * (qx - px) + (qy - py) * (qy - py)).toNat / Nat.gcd (left px py qx qy cx cy * left px py qx qy cx cy).toNat ((qx - px) * (qx - px) + (qy - py) * (qy - py)).toNat) := by
  unfold Rg.near
  dsimp only
  rw [if_neg (show ¬ Rg.dot (Pt.sub ⟨qx, qy⟩ ⟨px, py⟩) (Pt.sub ⟨cx, cy⟩ ⟨px, py⟩) ≤ 0 from h0),
    if_neg (show ¬ Rg.dot (Pt.sub ⟨qx, qy⟩ ⟨px, py⟩) (Pt.sub ⟨qx, qy⟩ ⟨px, py⟩) ≤ Rg.dot (Pt.sub ⟨qx, qy⟩ ⟨px, py⟩) (Pt.sub ⟨cx, cy⟩ ⟨px, py⟩) from h)]
  rfl
theorem prem {a b c d e f : Int} (h0 : ¬ (c - a) * (e - a) + (d - b) * (f - b) ≤ 0) (h1 : ¬ 0 ≤ (c - a) * (e - c) + (d - b) * (f - d)) :
    0 ≤ ((c - a) * (f - b) - (d - b) * (e - a)) * ((c - a) * (f - b) - (d - b) * (e - a)) ∧ 0 < (c - a) * (c - a) + (d - b) * (d - b) := by
  refine ⟨sq1 _, ?_⟩
  have e1 : (c - a) * (c - a) + (d - b) * (d - b) = ((c - a) * (e - a) + (d - b) * (f - b)) - ((c - a) * (e - c) + (d - b) * (f - d)) := by grind
  omega
theorem apart {a b c d e f : Int} : (c - a) * (e - a) + (d - b) * (f - b) - ((c - a) * (c - a) + (d - b) * (d - b)) = (c - a) * (e - c) + (d - b) * (f - d) := by grind
/-! nearer: any two fractions (not in lowest terms either) of the same worth tell it. -/
theorem nearer_bad {px py qx qy cx cy dx dy : Int} (h : ¬ (In px ∧ In py ∧ In qx ∧ In qy ∧ In cx ∧ In cy ∧ In dx ∧ In dy)) :
    PyWqatct.nearer px py qx qy cx cy dx dy = [-8] := by
  refine step_bad (c := .nearer ⟨px, py⟩ ⟨qx, qy⟩ ⟨cx, cy⟩ ⟨dx, dy⟩) ?_
  unfold Wqatct.Call.ok
  simp only [Bool.and_eq_true, ptok]
  intro k
  exact h ⟨k.1.1, k.1.2, k.2.1.1, k.2.1.2, k.2.2.1.1, k.2.2.1.2, k.2.2.2.1, k.2.2.2.2⟩
theorem nearer_told {px py qx qy cx cy dx dy : Int} (h : In px ∧ In py ∧ In qx ∧ In qy ∧ In cx ∧ In cy ∧ In dx ∧ In dy) :
    PyWqatct.nearer px py qx qy cx cy dx dy = [((Rg.nearer ⟨px, py⟩ ⟨qx, qy⟩ ⟨cx, cy⟩ ⟨dx, dy⟩ : Nat) : Int)] := by
  refine (step_ok (c := .nearer ⟨px, py⟩ ⟨qx, qy⟩ ⟨cx, cy⟩ ⟨dx, dy⟩) ?_).trans rfl
  unfold Wqatct.Call.ok
  simp only [Bool.and_eq_true, ptok]
  exact ⟨⟨h.1, h.2.1⟩, ⟨h.2.2.1, h.2.2.2.1⟩, ⟨h.2.2.2.2.1, h.2.2.2.2.2.1⟩, h.2.2.2.2.2.2.1, h.2.2.2.2.2.2.2⟩
/-- n / m is the worth of the told fraction f. -/
def Worth (f : Nat × Nat) (n m : Int) : Prop := 0 < m ∧ 0 < f.2 ∧ n * (f.2 : Int) = (f.1 : Int) * m
theorem nearer_by {px py qx qy cx cy dx dy n m k l : Int} (h1 : Worth (Rg.near ⟨px, py⟩ ⟨qx, qy⟩ ⟨cx, cy⟩) n m) (h2 : Worth (Rg.near ⟨px, py⟩ ⟨qx, qy⟩ ⟨dx, dy⟩) k l) :
    ((Rg.nearer ⟨px, py⟩ ⟨qx, qy⟩ ⟨cx, cy⟩ ⟨dx, dy⟩ : Nat) : Int) = if n * l < k * m then 1 else if k * m < n * l then 2 else 0 := by
  unfold Rg.nearer
  dsimp only
  generalize Rg.near ⟨px, py⟩ ⟨qx, qy⟩ ⟨cx, cy⟩ = f at *
  generalize Rg.near ⟨px, py⟩ ⟨qx, qy⟩ ⟨dx, dy⟩ = g at *
  obtain ⟨a1, a2⟩ := f
  obtain ⟨b1, b2⟩ := g
  obtain ⟨p1, p2, p3⟩ := h1
  obtain ⟨q1, q2, q3⟩ := h2
  dsimp only at *
  have key (x1 x2 y1 y2 n m k l : Int) (p1 : 0 < m) (q1 : 0 < l) (p2 : 0 < x2) (q2 : 0 < y2) (p3 : n * x2 = x1 * m) (q3 : k * y2 = y1 * l) : (x1 * y2 < y1 * x2 ↔ n * l < k * m) := by
    have hm : 0 < m * l := Int.mul_pos p1 q1
    have hx : 0 < x2 * y2 := Int.mul_pos p2 q2
    have e1 : (x1 * y2) * (m * l) = (n * l) * (x2 * y2) := by grind
    have e2 : (y1 * x2) * (m * l) = (k * m) * (x2 * y2) := by grind
    constructor
    · intro c
      have c2 := Int.mul_lt_mul_of_pos_right c hm
      rw [e1, e2] at c2
      exact Int.lt_of_mul_lt_mul_right c2 (Int.le_of_lt hx)
    · intro c
      have c2 := Int.mul_lt_mul_of_pos_right c hx
      rw [← e1, ← e2] at c2
      exact Int.lt_of_mul_lt_mul_right c2 (Int.le_of_lt hm)
  have k1 := key a1 a2 b1 b2 n m k l p1 q1 (by omega) (by omega) p3 q3
  have k2 := key b1 b2 a1 a2 k l n m q1 p1 (by omega) (by omega) q3 p3
  rw [← Int.natCast_mul, ← Int.natCast_mul, Int.ofNat_lt] at k1 k2
  by_cases c1 : a1 * b2 < b1 * a2
  · rw [if_pos c1, if_pos (k1.mp c1)]
    rfl
  · rw [if_neg c1, if_neg (fun z => c1 (k1.mpr z))]
    by_cases c2 : b1 * a2 < a1 * b2
    · rw [if_pos c2, if_pos (k2.mp c2)]
      rfl
    · rw [if_neg c2, if_neg (fun z => c2 (k2.mpr z))]
      rfl
theorem worth_one {n : Int} (h : 0 ≤ n) : Worth (n.toNat, 1) n 1 := by
  refine ⟨by omega, by omega, ?_⟩
  dsimp only
  omega
theorem worth_low {n m : Int} (h : 0 ≤ n) (k : 0 < m) : Worth (n.toNat / Nat.gcd n.toNat m.toNat, m.toNat / Nat.gcd n.toNat m.toNat) n m := by
  have g0 : 0 < Nat.gcd n.toNat m.toNat := Nat.gcd_pos_of_pos_right _ (by omega)
  have d1 := Nat.div_mul_cancel (Nat.gcd_dvd_left n.toNat m.toNat)
  have d2 := Nat.div_mul_cancel (Nat.gcd_dvd_right n.toNat m.toNat)
  have m0 : 0 < m.toNat := by omega
  refine ⟨k, Nat.div_pos (Nat.le_of_dvd m0 (Nat.gcd_dvd_right _ _)) g0, ?_⟩
  dsimp only
  have e1 : n = (n.toNat : Int) := by omega
  have e2 : m = (m.toNat : Int) := by omega
  generalize n.toNat = x at *
  generalize m.toNat = y at *
  subst e1 e2
  rw [← Int.natCast_mul, ← Int.natCast_mul]
  congr 1
  generalize hg : Nat.gcd x y = g at *
  have : x * (y / g) = (x / g) * y := by
    have e3 : x / g * g * (y / g) = x / g * (y / g * g) := by rw [Nat.mul_assoc, Nat.mul_comm g]
    rw [d1, d2] at e3
    exact e3
  exact this
end Wz

open PySem PySem.W
/-! The request, number by number. -/
namespace Wz
theorem take_int {lo hi k : Int} {cs : List Codec} {ds : List WData} (h : (Codec.decAll (.int lo hi :: cs) (WData.int k :: ds)).isSome = true) :
    (lo ≤ k ∧ k ≤ hi) ∧ (Codec.decAll cs ds).isSome = true ∧ ∀ r, Codec.decAll cs ds = some r → Codec.decAll (.int lo hi :: cs) (WData.int k :: ds) = some (k, r) := by
  have e : Codec.decAll (.int lo hi :: cs) (WData.int k :: ds) = Codec.both Prod.mk (if Codec.inInt lo hi k = true then some k else none) (Codec.decAll cs ds) := rfl
  rw [e] at h ⊢
  cases h1 : Codec.inInt lo hi k with
  | false =>
    rw [h1] at h
    cases h
  | true =>
    rw [h1, if_pos rfl] at h
    have h2 := h1
    unfold Codec.inInt at h2
    simp only [Bool.and_eq_true, decide_eq_true_eq] at h2
    cases h3 : Codec.decAll cs ds with
    | none =>
      rw [h3] at h
      cases h
    | some r =>
      refine ⟨h2, rfl, fun r' e' => ?_⟩
      cases e'
      rfl
theorem nearer_post {a b c d e f g i : Int} {l : List Int}
    (hpre : PySem.Challenge.rw_waterways_s04_nearer.pre [.int a, .int b, .int c, .int d, .int e, .int f, .int g, .int i] = true)
    (h : l = PyWqatct.nearer a b c d e f g i) :
    PySem.Challenge.rw_waterways_s04_nearer.post [.int a, .int b, .int c, .int d, .int e, .int f, .int g, .int i] (ofPy (PyData.list (l.map PyData.int))) = true := by
  obtain ⟨_, k1, g1⟩ := take_int (os_pre_isSome hpre)
  obtain ⟨_, k2, g2⟩ := take_int k1
  obtain ⟨_, k3, g3⟩ := take_int k2
  obtain ⟨_, k4, g4⟩ := take_int k3
  obtain ⟨_, k5, g5⟩ := take_int k4
  obtain ⟨_, k6, g6⟩ := take_int k5
  obtain ⟨_, k7, g7⟩ := take_int k6
  obtain ⟨_, k8, g8⟩ := take_int k7
  refine os_post (g1 _ (g2 _ (g3 _ (g4 _ (g5 _ (g6 _ (g7 _ (g8 () rfl)))))))) ?_
  exact os_same_list (congrArg _ h)
/-- The program's own greatest common divisor, total and above 0. -/
def gcdz (a b : Int) : Int := if Int.gcd a b = 0 then 1 else (Int.gcd a b : Int)
theorem gcdz_pos (a b : Int) : 0 < gcdz a b := by
  unfold gcdz
  split <;> omega
theorem gcd_start (a b : Int) (h : 0 ≤ a) (k : 0 < b) : 0 ≤ a ∧ 0 ≤ b ∧ Int.gcd a b = Int.gcd a b ∧ (0 < a ∨ 0 < b) := ⟨h, Int.le_of_lt k, rfl, Or.inr k⟩
theorem gcd_turn {a0 b0 a b : Int} (h : Int.gcd a b = Int.gcd a0 b0) (ha : 0 ≤ a) (hb : 0 < b) :
    0 ≤ b ∧ 0 ≤ Int.fmod a b ∧ Int.gcd b (Int.fmod a b) = Int.gcd a0 b0 ∧ (0 < b ∨ 0 < Int.fmod a b) := by
  refine ⟨Int.le_of_lt hb, Int.fmod_nonneg_of_pos a hb, ?_, Or.inl hb⟩
  rw [Int.fmod_eq_emod_of_nonneg a (Int.le_of_lt hb), ← h]
  have e : (a % b).natAbs = a.natAbs % b.natAbs := by
    have e1 : (a % b) = ((a.natAbs % b.natAbs : Nat) : Int) := by
      rw [Int.natCast_emod, Int.natAbs_of_nonneg ha, Int.natAbs_of_nonneg (Int.le_of_lt hb)]
    rw [e1, Int.natAbs_natCast]
  show Nat.gcd b.natAbs (a % b).natAbs = Nat.gcd a.natAbs b.natAbs
  rw [e, Nat.gcd_comm, ← Nat.gcd_rec, Nat.gcd_comm]
theorem gcd_less {a b : Int} (hb : 0 < b) : (Int.fmod a b).toNat < b.toNat := by
  have h1 := Int.fmod_lt_of_pos a hb
  omega
theorem gcd_out {a0 b0 a b : Int} (h : Int.gcd a b = Int.gcd a0 b0) (ha : 0 ≤ a) (hb : b = 0) (hp : 0 < a ∨ 0 < b) : a = gcdz a0 b0 := by
  unfold gcdz
  rw [← h, hb, Int.gcd_zero_right]
  split <;> omega
/-- A place's greater number without its sign, as the program asks it. -/
theorem big (x y : Int) : ((1048576 : Int) < if (if y < 0 then -y else y) > (if x < 0 then -x else x) then (if y < 0 then -y else y) else (if x < 0 then -x else x)) ↔ ¬ (In x ∧ In y) := by
  unfold In
  split <;> split <;> split <;> omega
/-- A fraction brought to lowest terms by the program's own divisor. -/
theorem low {n m : Int} (h : 0 ≤ n) (k : 0 < m) : n.fdiv (gcdz n m) = ((n.toNat / Nat.gcd n.toNat m.toNat : Nat) : Int) ∧ m.fdiv (gcdz n m) = ((m.toNat / Nat.gcd n.toNat m.toNat : Nat) : Int) := by
  have z : Int.gcd n m ≠ 0 := by
    intro k
    have := (Int.gcd_eq_zero_iff.mp k).2
    omega
  have g : Int.gcd n m = Nat.gcd n.toNat m.toNat := by
    unfold Int.gcd
    congr 1 <;> omega
  have q : gcdz n m = (Nat.gcd n.toNat m.toNat : Int) := by
    unfold gcdz
    rw [if_neg z, g]
  rw [q, Int.fdiv_eq_ediv_of_nonneg _ (by omega), Int.fdiv_eq_ediv_of_nonneg _ (by omega), Int.natCast_ediv, Int.natCast_ediv,
    Int.toNat_of_nonneg h, Int.toNat_of_nonneg (Int.le_of_lt k)]
  exact ⟨rfl, rfl⟩
theorem nearer_end_far {a b c d e f g i : Int} (h : (decide ((1048576 : Int) < if (if b < 0 then -b else b) > (if a < 0 then -a else a) then (if b < 0 then -b else b) else (if a < 0 then -a else a)) || (decide ((1048576 : Int) < if (if d < 0 then -d else d) > (if c < 0 then -c else c) then (if d < 0 then -d else d) else (if c < 0 then -c else c)) || (decide ((1048576 : Int) < if (if f < 0 then -f else f) > (if e < 0 then -e else e) then (if f < 0 then -f else f) else (if e < 0 then -e else e)) || decide ((1048576 : Int) < if (if i < 0 then -i else i) > (if g < 0 then -g else g) then (if i < 0 then -i else i) else (if g < 0 then -g else g))))) = true) : [-8] = PyWqatct.nearer a b c d e f g i := by
  simp only [Bool.or_eq_true, decide_eq_true_eq, big] at h
  refine (nearer_bad ?_).symm
  intro k
  rcases h with h | h | h | h
  · exact h ⟨k.1, k.2.1⟩
  · exact h ⟨k.2.2.1, k.2.2.2.1⟩
  · exact h ⟨k.2.2.2.2.1, k.2.2.2.2.2.1⟩
  · exact h ⟨k.2.2.2.2.2.2.1, k.2.2.2.2.2.2.2⟩
theorem nearer_in {a b c d e f g i : Int} (h : (decide ((1048576 : Int) < if (if b < 0 then -b else b) > (if a < 0 then -a else a) then (if b < 0 then -b else b) else (if a < 0 then -a else a)) || (decide ((1048576 : Int) < if (if d < 0 then -d else d) > (if c < 0 then -c else c) then (if d < 0 then -d else d) else (if c < 0 then -c else c)) || (decide ((1048576 : Int) < if (if f < 0 then -f else f) > (if e < 0 then -e else e) then (if f < 0 then -f else f) else (if e < 0 then -e else e)) || decide ((1048576 : Int) < if (if i < 0 then -i else i) > (if g < 0 then -g else g) then (if i < 0 then -i else i) else (if g < 0 then -g else g))))) = false) : In a ∧ In b ∧ In c ∧ In d ∧ In e ∧ In f ∧ In g ∧ In i := by
  simp only [Bool.or_eq_false_iff, decide_eq_false_iff_not, big, Classical.not_not] at h
  exact ⟨h.1.1, h.1.2, h.2.1.1, h.2.1.2, h.2.2.1.1, h.2.2.1.2, h.2.2.2.1, h.2.2.2.2⟩
theorem worth_p {a b c d e f : Int} (h0 : (c - a) * (e - a) + (d - b) * (f - b) ≤ 0) :
    Worth (Rg.near ⟨a, b⟩ ⟨c, d⟩ ⟨e, f⟩) ((e - a) * (e - a) + (f - b) * (f - b)) 1 := by
  rw [near_p h0]
  exact worth_one (sq _ _)
theorem worth_q {a b c d e f : Int} (h0 : ¬ (c - a) * (e - a) + (d - b) * (f - b) ≤ 0) (h1 : 0 ≤ (c - a) * (e - c) + (d - b) * (f - d)) :
    Worth (Rg.near ⟨a, b⟩ ⟨c, d⟩ ⟨e, f⟩) ((e - c) * (e - c) + (f - d) * (f - d)) 1 := by
  have g := @apart a b c d e f
  rw [near_q h0 (by omega)]
  exact worth_one (sq _ _)
theorem worth_m {a b c d e f : Int} (h0 : ¬ (c - a) * (e - a) + (d - b) * (f - b) ≤ 0) (h1 : ¬ 0 ≤ (c - a) * (e - c) + (d - b) * (f - d)) :
    Worth (Rg.near ⟨a, b⟩ ⟨c, d⟩ ⟨e, f⟩) ((((c - a) * (f - b) - (d - b) * (e - a)) * ((c - a) * (f - b) - (d - b) * (e - a))).fdiv (gcdz (((c - a) * (f - b) - (d - b) * (e - a)) * ((c - a) * (f - b) - (d - b) * (e - a))) ((c - a) * (c - a) + (d - b) * (d - b)))) (((c - a) * (c - a) + (d - b) * (d - b)).fdiv (gcdz (((c - a) * (f - b) - (d - b) * (e - a)) * ((c - a) * (f - b) - (d - b) * (e - a))) ((c - a) * (c - a) + (d - b) * (d - b)))) := by
  have g := @apart a b c d e f
  have p := prem h0 h1
  rw [near_m h0 (by omega), (low p.1 p.2).1, (low p.1 p.2).2]
  have w := (worth_low p.1 p.2).2.1
  dsimp only at w
  exact ⟨Int.ofNat_lt.mpr w, w, rfl⟩
theorem sqb {x : Int} (h : -2097152 ≤ x) (k : x ≤ 2097152) : x * x ≤ 4398046511104 := by
  have e : 0 ≤ (2097152 - x) * (2097152 + x) := Int.mul_nonneg (by omega) (by omega)
  have e2 : (2097152 - x) * (2097152 + x) = 4398046511104 - x * x := by grind
  omega
/-- What is known of a fraction that the program has made: its worth, its denominator's bounds. -/
structure Got (a b c d e f n k : Int) : Prop where
  w : Worth (Rg.near ⟨a, b⟩ ⟨c, d⟩ ⟨e, f⟩) n k
  lo : 0 < k
  hi : k ≤ 8796093022208
theorem got_p {a b c d e f : Int} (h0 : (c - a) * (e - a) + (d - b) * (f - b) ≤ 0) : Got a b c d e f ((e - a) * (e - a) + (f - b) * (f - b)) 1 :=
  ⟨worth_p h0, by omega, by omega⟩
theorem got_q {a b c d e f : Int} (h0 : ¬ (c - a) * (e - a) + (d - b) * (f - b) ≤ 0) (h1 : 0 ≤ (c - a) * (e - c) + (d - b) * (f - d)) :
    Got a b c d e f ((e - c) * (e - c) + (f - d) * (f - d)) 1 := ⟨worth_q h0 h1, by omega, by omega⟩
theorem got_m {a b c d e f : Int} (h : In a ∧ In b ∧ In c ∧ In d) (h0 : ¬ (c - a) * (e - a) + (d - b) * (f - b) ≤ 0) (h1 : ¬ 0 ≤ (c - a) * (e - c) + (d - b) * (f - d)) :
    Got a b c d e f ((((c - a) * (f - b) - (d - b) * (e - a)) * ((c - a) * (f - b) - (d - b) * (e - a))).fdiv (gcdz (((c - a) * (f - b) - (d - b) * (e - a)) * ((c - a) * (f - b) - (d - b) * (e - a))) ((c - a) * (c - a) + (d - b) * (d - b))))
      (((c - a) * (c - a) + (d - b) * (d - b)).fdiv (gcdz (((c - a) * (f - b) - (d - b) * (e - a)) * ((c - a) * (f - b) - (d - b) * (e - a))) ((c - a) * (c - a) + (d - b) * (d - b)))) := by
  have w := worth_m h0 h1
  refine ⟨w, w.1, ?_⟩
  have p := prem h0 h1
  unfold In at h
  have b1 := sqb (x := c - a) (by omega) (by omega)
  have b2 := sqb (x := d - b) (by omega) (by omega)
  rw [(low p.1 p.2).2]
  have b3 := Nat.div_le_self ((c - a) * (c - a) + (d - b) * (d - b)).toNat (Nat.gcd (((c - a) * (f - b) - (d - b) * (e - a)) * ((c - a) * (f - b) - (d - b) * (e - a))).toNat ((c - a) * (c - a) + (d - b) * (d - b)).toNat)
  have b4 := Int.toNat_of_nonneg (Int.le_of_lt p.2)
  omega
theorem nearer_in4 {a b c d e f g i : Int} (h : (decide ((1048576 : Int) < if (if b < 0 then -b else b) > (if a < 0 then -a else a) then (if b < 0 then -b else b) else (if a < 0 then -a else a)) || (decide ((1048576 : Int) < if (if d < 0 then -d else d) > (if c < 0 then -c else c) then (if d < 0 then -d else d) else (if c < 0 then -c else c)) || (decide ((1048576 : Int) < if (if f < 0 then -f else f) > (if e < 0 then -e else e) then (if f < 0 then -f else f) else (if e < 0 then -e else e)) || decide ((1048576 : Int) < if (if i < 0 then -i else i) > (if g < 0 then -g else g) then (if i < 0 then -i else i) else (if g < 0 then -g else g))))) = false) : In a ∧ In b ∧ In c ∧ In d :=
  ⟨(nearer_in h).1, (nearer_in h).2.1, (nearer_in h).2.2.1, (nearer_in h).2.2.2.1⟩
theorem nearer_1 {a b c d e f g i n m k l : Int} (h : (decide ((1048576 : Int) < if (if b < 0 then -b else b) > (if a < 0 then -a else a) then (if b < 0 then -b else b) else (if a < 0 then -a else a)) || (decide ((1048576 : Int) < if (if d < 0 then -d else d) > (if c < 0 then -c else c) then (if d < 0 then -d else d) else (if c < 0 then -c else c)) || (decide ((1048576 : Int) < if (if f < 0 then -f else f) > (if e < 0 then -e else e) then (if f < 0 then -f else f) else (if e < 0 then -e else e)) || decide ((1048576 : Int) < if (if i < 0 then -i else i) > (if g < 0 then -g else g) then (if i < 0 then -i else i) else (if g < 0 then -g else g))))) = false)
    (hc : Got a b c d e f n m) (hd : Got a b c d g i k l) (w : 0 < [k, l].getD (Int.toNat 0) 0 * [n, m].getD (Int.toNat 1) 0 - [n, m].getD (Int.toNat 0) 0 * [k, l].getD (Int.toNat 1) 0) : [1] = PyWqatct.nearer a b c d e f g i := by
  have w' : 0 < k * m - n * l := w
  rw [nearer_told (nearer_in h), nearer_by hc.w hd.w, if_pos (by omega)]
theorem nearer_2 {a b c d e f g i n m k l : Int} (h : (decide ((1048576 : Int) < if (if b < 0 then -b else b) > (if a < 0 then -a else a) then (if b < 0 then -b else b) else (if a < 0 then -a else a)) || (decide ((1048576 : Int) < if (if d < 0 then -d else d) > (if c < 0 then -c else c) then (if d < 0 then -d else d) else (if c < 0 then -c else c)) || (decide ((1048576 : Int) < if (if f < 0 then -f else f) > (if e < 0 then -e else e) then (if f < 0 then -f else f) else (if e < 0 then -e else e)) || decide ((1048576 : Int) < if (if i < 0 then -i else i) > (if g < 0 then -g else g) then (if i < 0 then -i else i) else (if g < 0 then -g else g))))) = false)
    (hc : Got a b c d e f n m) (hd : Got a b c d g i k l) (w : [k, l].getD (Int.toNat 0) 0 * [n, m].getD (Int.toNat 1) 0 - [n, m].getD (Int.toNat 0) 0 * [k, l].getD (Int.toNat 1) 0 < 0) : [2] = PyWqatct.nearer a b c d e f g i := by
  have w' : k * m - n * l < 0 := w
  rw [nearer_told (nearer_in h), nearer_by hc.w hd.w, if_neg (by omega), if_pos (by omega)]
theorem nearer_0 {a b c d e f g i n m k l : Int} (h : (decide ((1048576 : Int) < if (if b < 0 then -b else b) > (if a < 0 then -a else a) then (if b < 0 then -b else b) else (if a < 0 then -a else a)) || (decide ((1048576 : Int) < if (if d < 0 then -d else d) > (if c < 0 then -c else c) then (if d < 0 then -d else d) else (if c < 0 then -c else c)) || (decide ((1048576 : Int) < if (if f < 0 then -f else f) > (if e < 0 then -e else e) then (if f < 0 then -f else f) else (if e < 0 then -e else e)) || decide ((1048576 : Int) < if (if i < 0 then -i else i) > (if g < 0 then -g else g) then (if i < 0 then -i else i) else (if g < 0 then -g else g))))) = false)
    (hc : Got a b c d e f n m) (hd : Got a b c d g i k l) (w0 : ¬ 0 < [k, l].getD (Int.toNat 0) 0 * [n, m].getD (Int.toNat 1) 0 - [n, m].getD (Int.toNat 0) 0 * [k, l].getD (Int.toNat 1) 0)
    (w : ¬ [k, l].getD (Int.toNat 0) 0 * [n, m].getD (Int.toNat 1) 0 - [n, m].getD (Int.toNat 0) 0 * [k, l].getD (Int.toNat 1) 0 < 0) : [0] = PyWqatct.nearer a b c d e f g i := by
  have w1 : ¬ 0 < k * m - n * l := w0
  have w2 : ¬ k * m - n * l < 0 := w
  rw [nearer_told (nearer_in h), nearer_by hc.w hd.w, if_neg (by omega), if_neg (by omega)]
theorem mul_ok {n m k l : Int} (h : 0 < k) (h2 : k ≤ 8796093022208) : IntMulOk ([n, m].getD (Int.toNat 0) 0) ([l, k].getD (Int.toNat 1) 0) :=
  IntMulOk.of_right (show Builtin.Int.intBits k ≤ 64 from intBits_le_64 (by omega) (by omega))
/-! A call that hands back a new list of two numbers, its ways met: what is known of the two numbers is a relation, what else the call made is forgotten. -/
structure Mark : Prop where
def JoinTwo (P : Int → Int → Prop) (h₀ : Heap) (L : Addr) (m : Str → Option Value) (news : List (Addr × Obj)) (s : Shared) (v : Value) (s' : Shared) : Prop :=
  ∃ (D : Addr) (n k : Int) (t1 t2 : Tok) (h : Heap) (tk : Nat), v = .ref D ∧ s' = { s with heap := h, toks := tk } ∧ PyProof.Rows.Fr h₀ L h m ∧ PyProof.Rows.News h₀ L h ((D, PySem.W.listOf #[Value.int n t1, Value.int k t2] 0) :: news) ∧ AllLt D news ∧ P n k
theorem join_end {P : Int → Int → Prop} {h₀ h : Heap} {L D : Addr} {m : Str → Option Value} {news news' : List (Addr × Obj)} {s s' : Shared} {n k : Int} {v : Value} {t1 t2 : Tok} {tk : Nat}
    (hp : P n k) (hv : v = .ref D) (hs : s' = { s with heap := h, toks := tk }) (F : PyProof.Rows.Fr h₀ L h m) (NM : PyProof.Rows.News h₀ L h news' ∧ (D, PySem.W.listOf #[Value.int n t1, Value.int k t2] 0) ∈ news')
    (hn : ∀ p ∈ news, p ∈ news') (hl : AllLt D news) : JoinTwo P h₀ L m news s v s' := by
  refine ⟨D, n, k, t1, t2, h, tk, hv, hs, F, fun p hq => ?_, hl, hp⟩
  rcases List.mem_cons.mp hq with rfl | hq
  · exact NM.1 _ NM.2
  · exact NM.1 p (hn p hq)
theorem join {P : Int → Int → Prop} {M : Model} {A : Around} {E : Value → Shared → Prop} {Q : Value → Shared → Prop} {s : Shared} {h₀ : Heap} {L : Addr} {m : Str → Option Value} {news : List (Addr × Obj)} {c : Sem Value}
    (hc : Mark → wpAny M A c (fun v s₂ => JoinTwo P h₀ L m news s v s₂) E s)
    (hk : ∀ (D : Addr) (n k : Int) (t1 t2 : Tok) (h : Heap) (tk : Nat), PyProof.Rows.Fr h₀ L h m → PyProof.Rows.News h₀ L h ((D, PySem.W.listOf #[Value.int n t1, Value.int k t2] 0) :: news) → P n k → AllLt D news → Q (.ref D) { s with heap := h, toks := tk }) : wpAny M A c Q E s := by
  refine wpAny_mono (hc ⟨⟩) (fun v s₂ hq => ?_) fun _ _ h => h
  obtain ⟨D, n, k, t1, t2, h, tk, hv, hs, F, N, hl, hp⟩ := hq
  subst hv
  subst hs
  exact hk D n k t1 t2 h tk F N hp hl
theorem join_c {a b c d e f g i : Int} (_ : PySem.Challenge.rw_waterways_s04_nearer.pre [.int a, .int b, .int c, .int d, .int e, .int f, .int g, .int i] = true)
    {M : Model} {A : Around} {E : Value → Shared → Prop} {Q : Value → Shared → Prop} {s : Shared} {h₀ : Heap} {L : Addr} {m : Str → Option Value} {news : List (Addr × Obj)} {cm : Sem Value}
    (_ : PyProof.Rows.Fr h₀ L s.heap m) (_ : PyProof.Rows.News h₀ L s.heap news)
    (hc : Mark → wpAny M A cm (fun v s₂ => JoinTwo (Got a b c d e f) h₀ L m news s v s₂) E s)
    (hk : ∀ (D : Addr) (n k : Int) (t1 t2 : Tok) (h : Heap) (tk : Nat), PyProof.Rows.Fr h₀ L h m → PyProof.Rows.News h₀ L h ((D, PySem.W.listOf #[Value.int n t1, Value.int k t2] 0) :: news) → Got a b c d e f n k → AllLt D news → Q (.ref D) { s with heap := h, toks := tk }) : wpAny M A cm Q E s := join hc hk
theorem join_d {a b c d e f g i n0 k0 : Int} (_ : PySem.Challenge.rw_waterways_s04_nearer.pre [.int a, .int b, .int c, .int d, .int e, .int f, .int g, .int i] = true) (_ : Got a b c d e f n0 k0)
    {M : Model} {A : Around} {E : Value → Shared → Prop} {Q : Value → Shared → Prop} {s : Shared} {h₀ : Heap} {L : Addr} {m : Str → Option Value} {news : List (Addr × Obj)} {cm : Sem Value}
    (_ : PyProof.Rows.Fr h₀ L s.heap m) (_ : PyProof.Rows.News h₀ L s.heap news)
    (hc : Mark → wpAny M A cm (fun v s₂ => JoinTwo (Got a b c d g i) h₀ L m news s v s₂) E s)
    (hk : ∀ (D : Addr) (n k : Int) (t1 t2 : Tok) (h : Heap) (tk : Nat), PyProof.Rows.Fr h₀ L h m → PyProof.Rows.News h₀ L h ((D, PySem.W.listOf #[Value.int n t1, Value.int k t2] 0) :: news) → Got a b c d g i n k → AllLt D news → Q (.ref D) { s with heap := h, toks := tk }) : wpAny M A cm Q E s := join hc hk
end Wz
local macro_rules | `(tactic| mul_fits) => `(tactic| exact Wz.mul_ok (by assumption) (by assumption))
set_option maxRecDepth 100000 in
set_option maxHeartbeats 64000000 in
theorem PySem.Challenge.cw_waterways_s04_nearer_holds : PySem.Challenge.rw_waterways_s04_nearer.Holds := by
  k_with "call ref" => (have cbP := Wz.prem (by assumption) (by assumption); k_call_by "common_divisor" Wz.gcdz (fun (a b : Int) => 0 ≤ a ∧ 0 < b))
  k_with "call ref" => (
    (with_reducible show wpAny _ _ (call _ [Value.ref _, Value.ref _, Value.ref _]) _ _ _)
    (fail_if_success (have : Wz.Mark := by assumption))
    (rename PyProof.Rows.Fr _ _ _ _ => jF)
    (rename PyProof.Rows.News _ _ _ _ => jN)
    (rename PySem.Challenge.rw_waterways_s04_nearer.pre _ = true => jP)
    (first
      | refine' Wz.join_d jP (by assumption) jF jN (fun jM => ?_) (fun jD jn jk j1 j2 jh jt jF2 jN2 jG jL => ?_)
      | refine' Wz.join_c jP jF jN (fun jM => ?_) (fun jD jn jk j1 j2 jh jt jF2 jN2 jG jL => ?_))
    (all_goals (try dsimp only))
    (all_goals (try (have jlo := Wz.Got.lo jG; have jhi := Wz.Got.hi jG)))
    (all_goals (try simp only [AllLt, and_true] at jL))
    (all_goals (try k_sweep))
    (all_goals (try k_fold)))
  k_with "JoinTwo" => (
    refine' Wz.join_end ?jp ?jv ?js ?jf ?jn ?jh ?jl
    (case jv => with_unfolding_all rfl)
    (case js => rfl)
    (case jf => assumption)
    (case jn => kcu_news)
    (case jh => kcj_all)
    (case jl => kcu_lt)
    (case jp => first
      | exact Wz.got_p (by assumption)
      | exact Wz.got_q (by assumption) (by assumption)
      | exact Wz.got_m (Wz.nearer_in4 (by assumption)) (by assumption) (by assumption))
    (all_goals exact (0 : Nat)))
  k_with "fact common_divisor" => exact Wz.gcdz_pos
  k_with "tree" => exact Wz.gcd_out (by assumption) (by omega) (by omega) (by omega)
  k_with "state" => first
    | exact Wz.gcd_start _ _ (by omega) (by omega)
    | exact Wz.gcd_turn (by assumption) (by omega) (by omega)
  k_with "measure" => exact Wz.gcd_less (by omega)
  k_with "exec While Compare cons nil" => k_while_given ["a!", "b!"] (fun a0 b0 _ a b => 0 ≤ a ∧ 0 ≤ b ∧ Int.gcd a b = Int.gcd a0 b0 ∧ (0 < a ∨ 0 < b)) (fun _ _ _ a b => b.toNat) "a" "b"
  open_ks with [.int 0, .int 0, .int 0, .int 0, .int 0, .int 0, .int 0, .int 0]
  all_goals first
    | exact Wz.nearer_post (l := [-8]) hpre (Wz.nearer_end_far (by assumption))
    | exact Wz.nearer_post (l := [1]) hpre (Wz.nearer_1 (by assumption) (by assumption) (by assumption) (by assumption))
    | exact Wz.nearer_post (l := [2]) hpre (Wz.nearer_2 (by assumption) (by assumption) (by assumption) (by assumption))
    | exact Wz.nearer_post (l := [0]) hpre (Wz.nearer_0 (by assumption) (by assumption) (by assumption) (by assumption) (by assumption))
#print axioms PySem.Challenge.cw_waterways_s04_nearer_holds
