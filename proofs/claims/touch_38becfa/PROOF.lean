import PyProof.Rows.All
import KE.OsGo
import PySem.Challenge.RW_waterways_s05_touch
set_option Elab.async false
namespace Wz
open Rg
def In (z : Int) : Prop := -1048576 ≤ z ∧ z ≤ 1048576
theorem far (z : Int) : z.natAbs ≤ Rg.FAR ↔ In z := by
  unfold Rg.FAR In
  omega
theorem ptok (x y : Int) : (Pt.ok ⟨x, y⟩ = true) ↔ (In x ∧ In y) := by
  unfold Pt.ok
  simp only [Bool.and_eq_true, decide_eq_true_eq, far]
theorem ptne (a b c d : Int) : (((⟨a, b⟩ : Pt) != ⟨c, d⟩) = true) ↔ ¬ (a = c ∧ b = d) := by
  rw [bne_iff_ne, Ne, Pt.mk.injEq]
theorem hullok (a b c d : Int) : (Hull.ok ⟨⟨a, b⟩, ⟨c, d⟩⟩ = true) ↔ ((In a ∧ In b) ∧ (In c ∧ In d) ∧ ¬ (a = c ∧ b = d)) := by
  unfold Hull.ok
  simp only [Bool.and_eq_true, ptok, ptne]
/-- An answer's list: the one number of a refusal, or what is told. -/
theorem step_bad {c : Wqatct.Call} (h : ¬ c.ok = true) :
    (Wqatct.answer c).ret :: (Wqatct.answer c).nums.map WqatctNeutral.int = [-8] := by
  unfold Wqatct.answer
  rw [if_neg h]
  rfl
theorem step_ok {c : Wqatct.Call} (h : c.ok = true) :
    (Wqatct.answer c).ret :: (Wqatct.answer c).nums.map WqatctNeutral.int = (Wqatct.told c).ret :: (Wqatct.told c).nums.map WqatctNeutral.int := by
  unfold Wqatct.answer
  rw [if_pos h]
def Hulls (a b c d e f g i : Int) : Prop := ((In a ∧ In b) ∧ (In c ∧ In d) ∧ ¬ (a = c ∧ b = d)) ∧ ((In e ∧ In f) ∧ (In g ∧ In i) ∧ ¬ (e = g ∧ f = i))
theorem touch_bad {a b c d e f g i : Int} (h : ¬ Hulls a b c d e f g i) : PyWqatct.touch a b c d e f g i = [-8] := by
  refine step_bad (c := .touch ⟨⟨a, b⟩, ⟨c, d⟩⟩ ⟨⟨e, f⟩, ⟨g, i⟩⟩) ?_
  unfold Wqatct.Call.ok
  simp only [Bool.and_eq_true, hullok]
  exact h
theorem touch_told {a b c d e f g i : Int} (h : Hulls a b c d e f g i) :
    PyWqatct.touch a b c d e f g i = [if Rg.meet ⟨a, b⟩ ⟨c, d⟩ ⟨e, f⟩ ⟨g, i⟩ = true then 1 else 0] := by
  refine (step_ok (c := .touch ⟨⟨a, b⟩, ⟨c, d⟩⟩ ⟨⟨e, f⟩, ⟨g, i⟩⟩) ?_).trans rfl
  unfold Wqatct.Call.ok
  simp only [Bool.and_eq_true, hullok]
  exact h
def left (px py qx qy cx cy : Int) : Int := (qx - px) * (cy - py) - (qy - py) * (cx - px)
theorem between_is (a b c d e f : Int) : (Rg.between ⟨a, b⟩ ⟨c, d⟩ ⟨e, f⟩ = true) ↔ (left a b c d e f = 0 ∧ min a c ≤ e ∧ e ≤ max a c ∧ min b d ≤ f ∧ f ≤ max b d) := by
  unfold Rg.between
  simp only [Bool.and_eq_true, decide_eq_true_eq, beq_iff_eq]
  exact Iff.rfl
/-- Two numbers strictly on one side of 0. -/
def Same (x y : Int) : Prop := (0 < x ∧ 0 < y) ∨ (x < 0 ∧ y < 0)
instance (x y : Int) : Decidable (Same x y) := by unfold Same; infer_instance
/-- A whole weighing of two numbers lies between them. -/
theorem weigh {u v w a c e : Int} (hu : 0 ≤ u) (hv : 0 ≤ v) (hw : u + v = w) (hw0 : 0 < w) (h : w * e = u * c + v * a) : min a c ≤ e ∧ e ≤ max a c := by
  have m1 : u * min a c ≤ u * c := Int.mul_le_mul_of_nonneg_left (by omega) hu
  have m2 : v * min a c ≤ v * a := Int.mul_le_mul_of_nonneg_left (by omega) hv
  have m3 : u * c ≤ u * max a c := Int.mul_le_mul_of_nonneg_left (by omega) hu
  have m4 : v * a ≤ v * max a c := Int.mul_le_mul_of_nonneg_left (by omega) hv
  have e1 : w * min a c = u * min a c + v * min a c := by rw [← hw, Int.add_mul]
  have e2 : w * max a c = u * max a c + v * max a c := by rw [← hw, Int.add_mul]
  constructor
  · exact Int.le_of_mul_le_mul_left (by omega) hw0
  · exact Int.le_of_mul_le_mul_left (by omega) hw0
/-- Two whole weighings of one weight that are equal: what they weigh overlaps. -/
theorem weigh2 {u v p q w a c e g : Int} (hu : 0 ≤ u) (hv : 0 ≤ v) (hw : u + v = w) (hp : 0 ≤ p) (hq : 0 ≤ q) (hw2 : p + q = w) (hw0 : 0 < w) (h : p * g + q * e = u * c + v * a) :
    min a c ≤ max e g ∧ min e g ≤ max a c := by
  have m1 : u * min a c ≤ u * c := Int.mul_le_mul_of_nonneg_left (by omega) hu
  have m2 : v * min a c ≤ v * a := Int.mul_le_mul_of_nonneg_left (by omega) hv
  have m3 : u * c ≤ u * max a c := Int.mul_le_mul_of_nonneg_left (by omega) hu
  have m4 : v * a ≤ v * max a c := Int.mul_le_mul_of_nonneg_left (by omega) hv
  have e1 : w * min a c = u * min a c + v * min a c := by rw [← hw, Int.add_mul]
  have e2 : w * max a c = u * max a c + v * max a c := by rw [← hw, Int.add_mul]
  have n1 : p * min e g ≤ p * g := Int.mul_le_mul_of_nonneg_left (by omega) hp
  have n2 : q * min e g ≤ q * e := Int.mul_le_mul_of_nonneg_left (by omega) hq
  have n3 : p * g ≤ p * max e g := Int.mul_le_mul_of_nonneg_left (by omega) hp
  have n4 : q * e ≤ q * max e g := Int.mul_le_mul_of_nonneg_left (by omega) hq
  have f1 : w * min e g = p * min e g + q * min e g := by rw [← hw2, Int.add_mul]
  have f2 : w * max e g = p * max e g + q * max e g := by rw [← hw2, Int.add_mul]
  constructor
  · exact Int.le_of_mul_le_mul_left (by omega) hw0
  · exact Int.le_of_mul_le_mul_left (by omega) hw0
theorem lefts (a b c d e f g i : Int) :
    left a b c d g i - left a b c d e f = left e f g i a b - left e f g i c d ∧
    left a b c d g i * e - left a b c d e f * g = left e f g i a b * c - left e f g i c d * a ∧
    left a b c d g i * f - left a b c d e f * i = left e f g i a b * d - left e f g i c d * b := by
  unfold left
  refine ⟨?_, ?_, ?_⟩ <;> grind
/-- The end (e, f), on the line of the other, lies between that one's ends. -/
theorem inner {l2 l3 l4 a c e : Int} (h1 : l2 = l3 - l4) (h2 : l2 * e = l3 * c - l4 * a) (n : l2 ≠ 0) (s : ¬ Same l3 l4) : min a c ≤ e ∧ e ≤ max a c := by
  unfold Same at s
  rcases Int.lt_or_gt_of_ne n with k | k
  · refine weigh (u := -l3) (v := l4) (w := -l2) (by omega) (by omega) (by omega) (by omega) ?_
    grind
  · refine weigh (u := l3) (v := -l4) (w := l2) (by omega) (by omega) (by omega) (by omega) ?_
    grind
/-- An end that lies between the other's ends has these not on one side. -/
theorem apart_of {l3 l4 a c e : Int} (h2 : (l3 - l4) * e = l3 * c - l4 * a) (lo : min a c ≤ e) (hi : e ≤ max a c) (s : Same l3 l4) : a = e ∧ c = e := by
  have k : l3 * (e - c) = l4 * (e - a) := by grind
  unfold Same at s
  rcases s with s | s
  · rcases Int.lt_trichotomy c e with z | z | z
    · have p := Int.mul_pos s.1 (show 0 < e - c by omega)
      have q := Int.mul_nonneg (Int.le_of_lt s.2) (show 0 ≤ a - e by omega)
      have r : l4 * (e - a) = -(l4 * (a - e)) := by grind
      omega
    · subst z
      rw [Int.sub_self, Int.mul_zero] at k
      have := Int.mul_eq_zero.mp k.symm
      omega
    · have p := Int.mul_pos s.1 (show 0 < c - e by omega)
      have q := Int.mul_nonneg (Int.le_of_lt s.2) (show 0 ≤ e - a by omega)
      have r : l3 * (e - c) = -(l3 * (c - e)) := by grind
      omega
  · rcases Int.lt_trichotomy c e with z | z | z
    · have p := Int.mul_pos (show 0 < -l3 by omega) (show 0 < e - c by omega)
      have q := Int.mul_nonneg (show 0 ≤ -l4 by omega) (show 0 ≤ a - e by omega)
      have r : l4 * (e - a) = -l4 * (a - e) := by grind
      have r2 : l3 * (e - c) = -(-l3 * (e - c)) := by grind
      omega
    · subst z
      rw [Int.sub_self, Int.mul_zero] at k
      have := Int.mul_eq_zero.mp k.symm
      omega
    · have p := Int.mul_pos (show 0 < -l3 by omega) (show 0 < c - e by omega)
      have q := Int.mul_nonneg (show 0 ≤ -l4 by omega) (show 0 ≤ e - a by omega)
      have r : l3 * (e - c) = -l3 * (c - e) := by grind
      have r2 : l4 * (e - a) = -(-l4 * (e - a)) := by grind
      omega
/-- On a line that is not upright: what lies within by x does by y. -/
theorem level {a b c d e f : Int} (h : left a b c d e f = 0) (n : a ≠ c) (lo : min a c ≤ e) (hi : e ≤ max a c) : min b d ≤ f ∧ f ≤ max b d := by
  unfold left at h
  rcases Int.lt_or_gt_of_ne n with k | k
  · refine weigh (u := e - a) (v := c - e) (w := c - a) (by omega) (by omega) (by omega) (by omega) ?_
    grind
  · refine weigh (u := a - e) (v := e - c) (w := a - c) (by omega) (by omega) (by omega) (by omega) ?_
    grind
theorem swap_left (a b c d e f : Int) : left b a d c f e = - left a b c d e f := by
  unfold left
  omega
/-- Hulls on one line, not upright, their boxes overlapping by x: an end of one is between the other's. -/
theorem lined {a b c d e f g i : Int} (n : a ≠ c) (m : e ≠ g) (l1 : left a b c d e f = 0) (l2 : left a b c d g i = 0) (l3 : left e f g i a b = 0) (l4 : left e f g i c d = 0)
    (x1 : min a c ≤ max e g) (x2 : min e g ≤ max a c) :
    (min a c ≤ e ∧ e ≤ max a c ∧ min b d ≤ f ∧ f ≤ max b d) ∨ (min a c ≤ g ∧ g ≤ max a c ∧ min b d ≤ i ∧ i ≤ max b d) ∨
    (min e g ≤ a ∧ a ≤ max e g ∧ min f i ≤ b ∧ b ≤ max f i) ∨ (min e g ≤ c ∧ c ≤ max e g ∧ min f i ≤ d ∧ d ≤ max f i) := by
  by_cases h1 : min a c ≤ e ∧ e ≤ max a c
  · exact Or.inl ⟨h1.1, h1.2, level l1 n h1.1 h1.2⟩
  by_cases h2 : min a c ≤ g ∧ g ≤ max a c
  · exact Or.inr (Or.inl ⟨h2.1, h2.2, level l2 n h2.1 h2.2⟩)
  by_cases h3 : min e g ≤ a ∧ a ≤ max e g
  · exact Or.inr (Or.inr (Or.inl ⟨h3.1, h3.2, level l3 m h3.1 h3.2⟩))
  · exfalso
    omega
theorem upright {a b c d e f : Int} (h : left a b c d e f = 0) (n : a = c) (k : b ≠ d) : e = a := by
  unfold left at h
  subst n
  rw [Int.sub_self, Int.zero_mul, Int.zero_sub] at h
  have := Int.mul_eq_zero.mp (show (d - b) * (e - a) = 0 by omega)
  omega
/-- **Straights that meet**: their boxes overlap, and neither has both its ends strictly on one side of the other. -/
theorem meet_iff {a b c d e f g i : Int} (hA : ¬ (a = c ∧ b = d)) (hB : ¬ (e = g ∧ f = i)) :
    (Rg.meet ⟨a, b⟩ ⟨c, d⟩ ⟨e, f⟩ ⟨g, i⟩ = true) ↔
      ((min a c ≤ max e g ∧ min e g ≤ max a c ∧ min b d ≤ max f i ∧ min f i ≤ max b d) ∧ ¬ Same (left a b c d e f) (left a b c d g i) ∧ ¬ Same (left e f g i a b) (left e f g i c d)) := by
  obtain ⟨w0, wx, wy⟩ := lefts a b c d e f g i
  have sd (p q r s t u : Int) : Rg.side ⟨p, q⟩ ⟨r, s⟩ ⟨t, u⟩ = if 0 < left p q r s t u then 1 else if left p q r s t u < 0 then 2 else 0 := rfl
  unfold Rg.meet
  simp only [Bool.or_eq_true, Bool.and_eq_true, between_is, bne_iff_ne, ne_eq, sd]
  have b1 (h : left a b c d e f = 0 ∧ min a c ≤ e ∧ e ≤ max a c ∧ min b d ≤ f ∧ f ≤ max b d) (s : Same (left e f g i a b) (left e f g i c d)) : False := by
    rw [h.1, Int.zero_mul, Int.sub_zero] at wx wy
    have p := apart_of (by rw [← w0, h.1, Int.sub_zero]; exact wx) h.2.1 h.2.2.1 s
    have q := apart_of (by rw [← w0, h.1, Int.sub_zero]; exact wy) h.2.2.2.1 h.2.2.2.2 s
    omega
  have b2 (h : left a b c d g i = 0 ∧ min a c ≤ g ∧ g ≤ max a c ∧ min b d ≤ i ∧ i ≤ max b d) (s : Same (left e f g i a b) (left e f g i c d)) : False := by
    rw [h.1, Int.zero_mul, Int.zero_sub] at wx wy
    have p := apart_of (e := g) (by rw [← w0, h.1, Int.zero_sub, Int.neg_mul]; exact wx) h.2.1 h.2.2.1 s
    have q := apart_of (e := i) (by rw [← w0, h.1, Int.zero_sub, Int.neg_mul]; exact wy) h.2.2.2.1 h.2.2.2.2 s
    omega
  have b3 (h : left e f g i a b = 0 ∧ min e g ≤ a ∧ a ≤ max e g ∧ min f i ≤ b ∧ b ≤ max f i) (s : Same (left a b c d e f) (left a b c d g i)) : False := by
    rw [h.1, Int.zero_mul, Int.zero_sub] at wx wy
    rw [h.1, Int.zero_sub] at w0
    have p := apart_of (l3 := left a b c d e f) (l4 := left a b c d g i) (a := e) (c := g) (e := a) (by rw [show left a b c d e f - left a b c d g i = left e f g i c d by omega]; omega) h.2.1 h.2.2.1 s
    have q := apart_of (l3 := left a b c d e f) (l4 := left a b c d g i) (a := f) (c := i) (e := b) (by rw [show left a b c d e f - left a b c d g i = left e f g i c d by omega]; omega) h.2.2.2.1 h.2.2.2.2 s
    omega
  have b4 (h : left e f g i c d = 0 ∧ min e g ≤ c ∧ c ≤ max e g ∧ min f i ≤ d ∧ d ≤ max f i) (s : Same (left a b c d e f) (left a b c d g i)) : False := by
    rw [h.1, Int.zero_mul, Int.sub_zero] at wx wy
    rw [h.1, Int.sub_zero] at w0
    have p := apart_of (l3 := left a b c d e f) (l4 := left a b c d g i) (a := e) (c := g) (e := c) (by rw [show left a b c d e f - left a b c d g i = -left e f g i a b by omega, Int.neg_mul]; omega) h.2.1 h.2.2.1 s
    have q := apart_of (l3 := left a b c d e f) (l4 := left a b c d g i) (a := f) (c := i) (e := d) (by rw [show left a b c d e f - left a b c d g i = -left e f g i a b by omega, Int.neg_mul]; omega) h.2.2.2.1 h.2.2.2.2 s
    omega
  constructor
  · intro h
    rcases h with h | h | h | h | h
    · refine ⟨by omega, ?_, b1 h⟩
      unfold Same
      omega
    · refine ⟨by omega, ?_, b2 h⟩
      unfold Same
      omega
    · refine ⟨by omega, b3 h, ?_⟩
      unfold Same
      omega
    · refine ⟨by omega, b4 h, ?_⟩
      unfold Same
      omega
    · generalize left a b c d e f = l1 at *
      generalize left a b c d g i = l2 at *
      generalize left e f g i a b = l3 at *
      generalize left e f g i c d = l4 at *
      have k : (l1 < 0 ∧ 0 < l2 ∧ 0 < l3 ∧ l4 < 0) ∨ (0 < l1 ∧ l2 < 0 ∧ l3 < 0 ∧ 0 < l4) := by
        clear b1 b2 b3 b4 wx wy
        revert h
        split <;> split <;> split <;> split <;> (try split) <;> (try split) <;> (try split) <;> (try split) <;> intro h <;> omega
      refine ⟨?_, by unfold Same; omega, by unfold Same; omega⟩
      rcases k with k | k
      · have p := weigh2 (u := l3) (v := -l4) (p := -l1) (q := l2) (w := l2 - l1) (a := a) (c := c) (e := e) (g := g) (by omega) (by omega) (by omega) (by omega) (by omega) (by omega) (by omega) (by grind)
        have q := weigh2 (u := l3) (v := -l4) (p := -l1) (q := l2) (w := l2 - l1) (a := b) (c := d) (e := f) (g := i) (by omega) (by omega) (by omega) (by omega) (by omega) (by omega) (by omega) (by grind)
        exact ⟨p.1, p.2, q.1, q.2⟩
      · have p := weigh2 (u := -l3) (v := l4) (p := l1) (q := -l2) (w := l1 - l2) (a := a) (c := c) (e := e) (g := g) (by omega) (by omega) (by omega) (by omega) (by omega) (by omega) (by omega) (by grind)
        have q := weigh2 (u := -l3) (v := l4) (p := l1) (q := -l2) (w := l1 - l2) (a := b) (c := d) (e := f) (g := i) (by omega) (by omega) (by omega) (by omega) (by omega) (by omega) (by omega) (by grind)
        exact ⟨p.1, p.2, q.1, q.2⟩
  · rintro ⟨⟨x1, x2, y1, y2⟩, s1, s2⟩
    by_cases k : left a b c d g i - left a b c d e f = 0
    · have z1 : left a b c d e f = 0 := by unfold Same at s1; omega
      have z2 : left a b c d g i = 0 := by omega
      have z3 : left e f g i a b = 0 := by unfold Same at s2; omega
      have z4 : left e f g i c d = 0 := by omega
      have r : (min a c ≤ e ∧ e ≤ max a c ∧ min b d ≤ f ∧ f ≤ max b d) ∨ (min a c ≤ g ∧ g ≤ max a c ∧ min b d ≤ i ∧ i ≤ max b d) ∨
          (min e g ≤ a ∧ a ≤ max e g ∧ min f i ≤ b ∧ b ≤ max f i) ∨ (min e g ≤ c ∧ c ≤ max e g ∧ min f i ≤ d ∧ d ≤ max f i) := by
        by_cases n : a = c
        · have nb : b ≠ d := fun q => hA ⟨n, q⟩
          have e1 := upright z1 n nb
          have e2 := upright z2 n nb
          have m : f ≠ i := fun q => hB ⟨by omega, q⟩
          have t := @lined b a d c f e i g nb m (by rw [swap_left, z1]; rfl) (by rw [swap_left, z2]; rfl) (by rw [swap_left, z3]; rfl) (by rw [swap_left, z4]; rfl) y1 y2
          omega
        · by_cases m : e = g
          · exfalso
            have nf : f ≠ i := fun q => hB ⟨m, q⟩
            have e1 := upright z3 m nf
            have e2 := upright z4 m nf
            omega
          · exact lined n m z1 z2 z3 z4 x1 x2
      rcases r with r | r | r | r
      · exact Or.inl ⟨z1, r⟩
      · exact Or.inr (Or.inl ⟨z2, r⟩)
      · exact Or.inr (Or.inr (Or.inl ⟨z3, r⟩))
      · exact Or.inr (Or.inr (Or.inr (Or.inl ⟨z4, r⟩)))
    · by_cases z1 : left a b c d e f = 0
      · rw [z1, Int.zero_mul, Int.sub_zero] at wx wy
        rw [z1, Int.sub_zero] at w0 k
        have p := inner w0 wx k s2
        have q := inner w0 wy k s2
        exact Or.inl ⟨z1, p.1, p.2, q.1, q.2⟩
      by_cases z2 : left a b c d g i = 0
      · rw [z2, Int.zero_mul, Int.zero_sub] at wx wy
        rw [z2, Int.zero_sub] at w0 k
        have p := inner (e := g) w0 (by rw [Int.neg_mul]; exact wx) k s2
        have q := inner (e := i) w0 (by rw [Int.neg_mul]; exact wy) k s2
        exact Or.inr (Or.inl ⟨z2, p.1, p.2, q.1, q.2⟩)
      by_cases z3 : left e f g i a b = 0
      · rw [z3, Int.zero_mul, Int.zero_sub] at wx wy
        rw [z3, Int.zero_sub] at w0
        have p := inner (l2 := left e f g i c d) (l3 := left a b c d e f) (l4 := left a b c d g i) (a := e) (c := g) (e := a) (by omega) (by omega) (by omega) s1
        have q := inner (l2 := left e f g i c d) (l3 := left a b c d e f) (l4 := left a b c d g i) (a := f) (c := i) (e := b) (by omega) (by omega) (by omega) s1
        exact Or.inr (Or.inr (Or.inl ⟨z3, p.1, p.2, q.1, q.2⟩))
      by_cases z4 : left e f g i c d = 0
      · rw [z4, Int.zero_mul, Int.sub_zero] at wx wy
        rw [z4, Int.sub_zero] at w0
        have p := inner (l2 := -left e f g i a b) (l3 := left a b c d e f) (l4 := left a b c d g i) (a := e) (c := g) (e := c) (by omega) (by rw [Int.neg_mul]; omega) (by omega) s1
        have q := inner (l2 := -left e f g i a b) (l3 := left a b c d e f) (l4 := left a b c d g i) (a := f) (c := i) (e := d) (by omega) (by rw [Int.neg_mul]; omega) (by omega) s1
        exact Or.inr (Or.inr (Or.inr (Or.inl ⟨z4, p.1, p.2, q.1, q.2⟩)))
      · refine Or.inr (Or.inr (Or.inr (Or.inr ?_)))
        generalize left a b c d e f = l1 at *
        generalize left a b c d g i = l2 at *
        generalize left e f g i a b = l3 at *
        generalize left e f g i c d = l4 at *
        clear b1 b2 b3 b4 wx wy
        unfold Same at s1 s2
        have t : (l1 < 0 ∧ 0 < l2 ∧ 0 < l3 ∧ l4 < 0) ∨ (0 < l1 ∧ l2 < 0 ∧ l3 < 0 ∧ 0 < l4) := by omega
        rcases t with t | t
        · rw [if_neg (show ¬ 0 < l1 by omega), if_pos t.1, if_pos t.2.1, if_pos t.2.2.1, if_neg (show ¬ 0 < l4 by omega), if_pos t.2.2.2]
          omega
        · rw [if_pos t.1, if_neg (show ¬ 0 < l2 by omega), if_pos t.2.1, if_neg (show ¬ 0 < l3 by omega), if_pos t.2.2.1, if_pos t.2.2.2]
          omega
theorem same_iff (x y : Int) : 0 < x * y ↔ Same x y := by
  unfold Same
  constructor
  · intro h
    rcases Int.lt_trichotomy x 0 with k | k | k
    · rcases Int.lt_trichotomy y 0 with j | j | j
      · exact Or.inr ⟨k, j⟩
      · rw [j, Int.mul_zero] at h
        omega
      · have := Int.mul_neg_of_neg_of_pos k j
        omega
    · rw [k, Int.zero_mul] at h
      omega
    · rcases Int.lt_trichotomy y 0 with j | j | j
      · have := Int.mul_neg_of_pos_of_neg k j
        omega
      · rw [j, Int.mul_zero] at h
        omega
      · exact Or.inl ⟨k, j⟩
  · intro h
    rcases h with h | h
    · exact Int.mul_pos h.1 h.2
    · exact Int.mul_pos_of_neg_of_neg h.1 h.2
theorem left_back (a b c d e f : Int) : (a - c) * (f - d) - (b - d) * (e - c) = - left a b c d e f := by
  unfold left
  grind
/-- Both ends (e, f), (g, i) strictly on one side of the line from (c, d) to (a, b), as the program asks it. -/
theorem aside (a b c d e f g i : Int) :
    0 < ((a - c) * (f - d) - (b - d) * (e - c)) * ((a - c) * (i - d) - (b - d) * (g - c)) ↔ Same (left a b c d e f) (left a b c d g i) := by
  rw [left_back, left_back, Int.neg_mul_neg, same_iff]
def Box (a b c d e f g i : Int) : Prop := min a c ≤ max e g ∧ min e g ≤ max a c ∧ min b d ≤ max f i ∧ min f i ≤ max b d
theorem touch_aside_a {a b c d e f g i : Int} (hH : Hulls a b c d e f g i)
    (h : 0 < ((e - g) * (b - i) - (f - i) * (a - g)) * ((e - g) * (d - i) - (f - i) * (c - g))) : [0] = PyWqatct.touch a b c d e f g i := by
  rw [touch_told hH, if_neg (fun k => ((meet_iff hH.1.2.2 hH.2.2.2).mp k).2.2 ((aside ..).mp h))]
theorem touch_aside_b {a b c d e f g i : Int} (hH : Hulls a b c d e f g i)
    (h : 0 < ((a - c) * (f - d) - (b - d) * (e - c)) * ((a - c) * (i - d) - (b - d) * (g - c))) : [0] = PyWqatct.touch a b c d e f g i := by
  rw [touch_told hH, if_neg (fun k => ((meet_iff hH.1.2.2 hH.2.2.2).mp k).2.1 ((aside ..).mp h))]
theorem touch_out {a b c d e f g i : Int} (hH : Hulls a b c d e f g i) (h : ¬ Box a b c d e f g i) : [0] = PyWqatct.touch a b c d e f g i := by
  rw [touch_told hH, if_neg (fun k => h ((meet_iff hH.1.2.2 hH.2.2.2).mp k).1)]
theorem touch_in {a b c d e f g i : Int} (hH : Hulls a b c d e f g i) (h : Box a b c d e f g i)
    (h1 : ¬ 0 < ((e - g) * (b - i) - (f - i) * (a - g)) * ((e - g) * (d - i) - (f - i) * (c - g)))
    (h2 : ¬ 0 < ((a - c) * (f - d) - (b - d) * (e - c)) * ((a - c) * (i - d) - (b - d) * (g - c))) : [1] = PyWqatct.touch a b c d e f g i := by
  rw [touch_told hH, if_pos ((meet_iff hH.1.2.2 hH.2.2.2).mpr ⟨h, fun k => h2 ((aside ..).mpr k), fun k => h1 ((aside ..).mpr k)⟩)]
theorem touch_bad_a {a b c d e f g i : Int} (h : ¬ ((In a ∧ In b) ∧ (In c ∧ In d))) : [-8] = PyWqatct.touch a b c d e f g i :=
  (touch_bad fun k => h ⟨k.1.1, k.1.2.1⟩).symm
theorem touch_bad_b {a b c d e f g i : Int} (h : ¬ ((In e ∧ In f) ∧ (In g ∧ In i))) : [-8] = PyWqatct.touch a b c d e f g i :=
  (touch_bad fun k => h ⟨k.2.1, k.2.2.1⟩).symm
theorem touch_one_a {a b c d e f g i : Int} (h : a = c ∧ b = d) : [-8] = PyWqatct.touch a b c d e f g i := (touch_bad fun k => k.1.2.2 h).symm
theorem touch_one_b {a b c d e f g i : Int} (h : e = g ∧ f = i) : [-8] = PyWqatct.touch a b c d e f g i := (touch_bad fun k => k.2.2.2 h).symm
end Wz
namespace Wz
/-- A place's greater number without its sign, as the program asks it. -/
theorem big (x y : Int) : ((1048576 : Int) < if (if y < 0 then -y else y) > (if x < 0 then -x else x) then (if y < 0 then -y else y) else (if x < 0 then -x else x)) ↔ ¬ (In x ∧ In y) := by
  unfold In
  split <;> split <;> split <;> omega
/-- A place of these two is beyond, as the program asks it. -/
abbrev Far (a b c d : Int) : Bool :=
  (decide ((1048576 : Int) < if (if b < 0 then -b else b) > (if a < 0 then -a else a) then (if b < 0 then -b else b) else (if a < 0 then -a else a)) ||
    decide ((1048576 : Int) < if (if d < 0 then -d else d) > (if c < 0 then -c else c) then (if d < 0 then -d else d) else (if c < 0 then -c else c)))
theorem far_yes {a b c d : Int} (h : Far a b c d = true) : ¬ ((In a ∧ In b) ∧ (In c ∧ In d)) := by
  simp only [Far, Bool.or_eq_true, decide_eq_true_eq, big] at h
  intro k
  cases h with
  | inl h => exact h k.1
  | inr h => exact h k.2
theorem far_no {a b c d : Int} (h : Far a b c d = false) : (In a ∧ In b) ∧ (In c ∧ In d) := by
  simp only [Far, Bool.or_eq_false_iff, decide_eq_false_iff_not, big, Classical.not_not] at h
  exact h
theorem same_yes {a b c d : Int} (h : (a == c && b == d) = true) : a = c ∧ b = d := by
  simpa only [Bool.and_eq_true, beq_iff_eq] using h
theorem same_no {a b c d : Int} (h : (a == c && b == d) = false) : ¬ (a = c ∧ b = d) := by
  intro k
  rw [k.1, k.2] at h
  simp at h
theorem hulls_of {a b c d e f g i : Int} (h1 : Far a b c d = false) (h2 : (a == c && b == d) = false) (h3 : Far e f g i = false) (h4 : (e == g && f == i) = false) : Hulls a b c d e f g i :=
  ⟨⟨(far_no h1).1, (far_no h1).2, same_no h2⟩, (far_no h3).1, (far_no h3).2, same_no h4⟩
end Wz
namespace Wz
theorem span_yes {M N a c e g : Int} (q1 : M ≤ a ∧ M ≤ c) (q2 : e ≤ N ∧ g ≤ N) (p1 : M = a ∨ M = c) (p2 : N = e ∨ N = g) (r : M ≤ N) : min a c ≤ max e g := by omega
theorem span_no {M N a c e g : Int} (q1 : M ≤ a ∧ M ≤ c) (q2 : e ≤ N ∧ g ≤ N) (p1 : M = a ∨ M = c) (p2 : N = e ∨ N = g) (r : ¬ M ≤ N) : ¬ min a c ≤ max e g := by omega
theorem touch_far_a {a b c d e f g i : Int} (h : Far a b c d = true) : [-8] = PyWqatct.touch a b c d e f g i := touch_bad_a (far_yes h)
theorem touch_far_b {a b c d e f g i : Int} (h : Far e f g i = true) : [-8] = PyWqatct.touch a b c d e f g i := touch_bad_b (far_yes h)
theorem touch_same_a {a b c d e f g i : Int} (h : (a == c && b == d) = true) : [-8] = PyWqatct.touch a b c d e f g i := touch_one_a (same_yes h)
theorem touch_same_b {a b c d e f g i : Int} (h : (e == g && f == i) = true) : [-8] = PyWqatct.touch a b c d e f g i := touch_one_b (same_yes h)
theorem touch_out_1 {a b c d e f g i : Int} (hH : Hulls a b c d e f g i) (h : ¬ min a c ≤ max e g) : [0] = PyWqatct.touch a b c d e f g i := touch_out hH fun k => h k.1
theorem touch_out_2 {a b c d e f g i : Int} (hH : Hulls a b c d e f g i) (h : ¬ min e g ≤ max a c) : [0] = PyWqatct.touch a b c d e f g i := touch_out hH fun k => h k.2.1
theorem touch_out_3 {a b c d e f g i : Int} (hH : Hulls a b c d e f g i) (h : ¬ min b d ≤ max f i) : [0] = PyWqatct.touch a b c d e f g i := touch_out hH fun k => h k.2.2.1
theorem touch_out_4 {a b c d e f g i : Int} (hH : Hulls a b c d e f g i) (h : ¬ min f i ≤ max b d) : [0] = PyWqatct.touch a b c d e f g i := touch_out hH fun k => h k.2.2.2
theorem touch_never_x {a b c d e f g i M N : Int} {l : List Int} (_ : l = l) (q1 : M ≤ a ∧ M ≤ c) (q2 : e ≤ N ∧ g ≤ N) (r : M ≤ N) (s : ¬ M ≤ N) : l = PyWqatct.touch a b c d e f g i := absurd r s
theorem touch_never_y {a b c d e f g i M N : Int} {l : List Int} (_ : l = l) (q1 : M ≤ b ∧ M ≤ d) (q2 : f ≤ N ∧ i ≤ N) (r : M ≤ N) (s : ¬ M ≤ N) : l = PyWqatct.touch a b c d e f g i := absurd r s
end Wz
/-! A list comprehension that goes through a tuple. -/
namespace Wz
open PySem PySem.Spec PySem.Calls PyProof.Rows
/-- The tuple lies in what was there before, or it is among what was made. -/
def TupAt (g0 : Heap) (ta : Addr) (xs : Array Value) (made : List (Addr × Obj)) : Prop :=
  g0.IsTuple ta xs ∨ ∃ o, (ta, o) ∈ made ∧ o.cls = .type "tuple" ∧ ∃ n, o.data = .seq xs n
theorem tup_at {g0 g : Heap} {fl ta : Addr} {xs : Array Value} {made : List (Addr × Obj)} (t : TupAt g0 ta xs made)
    (kept : ∀ b o, g0.get? b = some o → g.get? b = some o) (nw : News g0 fl g made) : g.IsTuple ta xs := by
  cases t with
  | inl t =>
    obtain ⟨o, e, r⟩ := t
    exact ⟨o, kept _ _ e, r⟩
  | inr t =>
    obtain ⟨o, e, r⟩ := t
    exact ⟨o, (nw _ e).1, r⟩
section
variable {prog : Program} {w : World} {A : Around} {E : Value → Shared → Prop} {g0 : Heap} {fl : Addr} {m : Str → Option Value} {env : Env}
variable {elt iter : Expr} {x : Str} {px : Pos} {scope : Scope} {cl : List (Str × Addr)} {pos : Pos}
def TupSrc (prog : Program) (w : World) (A : Around) (g0 : Heap) (fl : Addr) (m : Str → Option Value) (env : Env) (elt : Expr) (x : Str) (scope : Scope) (cl : List (Str × Addr))
    (Fin : Shared → List Value → List (Addr × Obj) → Prop) (tv : Value) (s : Shared) : Prop :=
  ∃ ta xs made, tv = .ref ta ∧ A.handled = none ∧ Fr g0 fl s.heap m ∧ News g0 fl s.heap made ∧ TupAt g0 ta xs made ∧ xs.size ≤ sizeLine ∧
    ∀ g, LCg.CompRest prog w A g0 fl m env elt x scope cl { s with heap := g } (TupAt g0 ta xs) (fun i v => xs[i]? = some v) (Fin { s with heap := g }) xs.size 0 [] made
theorem tup_src {Fin : Shared → List Value → List (Addr × Obj) → Prop} {ta : Addr} {xs : Array Value} {k : Nat} {made : List (Addr × Obj)} {s : Shared}
    (ha : A.handled = none) (f : Fr g0 fl s.heap m) (nw : News g0 fl s.heap made) (hm : (ta, ({ cls := .type "tuple", data := .seq xs k } : Obj)) ∈ made) (few : xs.size ≤ sizeLine)
    (r : ∀ g, LCg.CompRest prog w A g0 fl m env elt x scope cl { s with heap := g } (TupAt g0 ta xs) (fun i v => xs[i]? = some v) (Fin { s with heap := g }) xs.size 0 [] made) :
    TupSrc prog w A g0 fl m env elt x scope cl Fin (.ref ta) s :=
  ⟨ta, xs, made, rfl, ha, f, nw, Or.inr ⟨_, hm, rfl, _, rfl⟩, few, r⟩
theorem tup_st {ta it : Addr} {xs : Array Value} : ∀ i (g g' : Heap) (o : Obj) (made : List (Addr × Obj)), (g.IsTupleIter it ta i ∧ g.IsTuple ta xs) → g.get? it = some o → g'.get? it = some o →
    (∀ b o, g0.get? b = some o → g'.get? b = some o) → News g0 fl g' made → TupAt g0 ta xs made → (g'.IsTupleIter it ta i ∧ g'.IsTuple ta xs) := by
  intro i g g' o made st e e' kept nw t
  refine ⟨?_, tup_at t kept nw⟩
  obtain ⟨o', q, r⟩ := st.1
  rw [e] at q
  cases q
  exact ⟨o, e', r⟩
theorem tup_block {Fin : Shared → List Value → List (Addr × Obj) → Prop} {RR : Value → Addr → Result → Shared → Prop} {tv : Value} {s : Shared}
    (T : TupSrc prog w A g0 fl m env elt x scope cl Fin tv s)
    (c1 : ∀ y ∈ scope.names, y.2 ≠ .cell) (c2 : scope.kind = .function) (c3 : scope.names.lookup x = some .local)
    (hR : ∀ g D C g' tk m' ys made, Fr g0 fl g' m → News g0 fl g' ((D, LCg.lst ys) :: made) → LCg.Off1 D made → g'.Ns C m' → g0.get? C = none → g0.get? D = none → C ≠ fl → D ≠ fl → C ≠ D →
      (∀ p ∈ made, p.1 ≠ C) → Fin { s with heap := g } ys made → RR (.ref D) C (.ok .next) { s with heap := g', toks := tk }) :
    wpAny (model prog w) A (pyIter tv) (fun it s₂ => wpAny (model prog w) A (newList []) (fun acc s₃ =>
      wpAny (model prog w) A (newFunctionEnv scope env.globals cl [] env.qual none .none (some env)) (fun ce s₄ =>
        codeAny (model prog w) A (.compStart (.ListComp elt [⟨.Name x px, iter, [], 0⟩] scope pos) 0 it acc { ce with scope := relabel scope env }) (RR acc ce.locals) s₄) E s₃) E s₂) E s := by
  obtain ⟨ta, xs, made, rfl, ha, f, nw, t, few, r⟩ := T
  have ht := tup_at t f.keep nw
  have lo : ta < s.heap.objs.size := by
    obtain ⟨_, e, _⟩ := ht
    exact Heap.lt_size e
  refine wpAny_pyIter_tuple ht ?_
  generalize hO : ({ cls := .type "tuple_iterator", data := .fields #[.ref ta, .int 0 0] } : Obj) = O
  have kept : ∀ b o, s.heap.get? b = some o → (s.heap.push O).get? b = some o := fun b o e => Heap.get?_push_of_some _ e
  have nO : O.isFreed = false := by rw [← hO]; rfl
  have self : (s.heap.push O).get? s.heap.objs.size = some O := Heap.get?_push_size _ nO
  have st0 : (s.heap.push O).IsTupleIter s.heap.objs.size ta 0 ∧ (s.heap.push O).IsTuple ta xs := ⟨⟨O, self, by rw [← hO], by rw [← hO]; rfl⟩, ht.push _⟩
  refine LCg.block_U (s₂ := { s with heap := s.heap.push O }) (Walks.tuple ha s.heap.objs.size ta (Nat.ne_of_lt lo) xs) few ?_ tup_st c1 c2 c3 st0 ?_ (f.keeps kept) (nw.grown kept) (Nat.ne_of_lt f.ns.lt) (next_is_new f) ?_ t (r _) ?_
  · intro i g st
    obtain ⟨o, e, _⟩ := st.1
    exact ⟨o, e⟩
  · intro b hb
    have sz : (s.heap.push O).objs.size = s.heap.objs.size + 1 := Heap.size_push ..
    show b < (s.heap.push O).objs.size
    rw [sz]
    simp only [List.mem_cons, List.not_mem_nil, or_false] at hb
    cases hb with
    | inl hb => rw [hb]; exact Nat.lt_succ_self _
    | inr hb => rw [hb]; exact Nat.lt_succ_of_lt lo
  · intro p hp
    exact Nat.ne_of_lt (Heap.lt_size (nw p hp).1)
  · intro D C g' tk m' ys made' f' nw' o1 hn hC hD nC nD nCD offC fin
    exact hR _ D C g' tk m' ys made' f' nw' o1 hn hC hD nC nD nCD offC fin
/-- What was made stays when the comprehension's own names are let go. -/
theorem tup_let {D C : Addr} {g' g'' : Heap} {ys : List Value} {made : List (Addr × Obj)} (nw : News g0 fl g' ((D, LCg.lst ys) :: made)) (nCD : C ≠ D) (offC : ∀ p ∈ made, p.1 ≠ C)
    (hs : Heap.SameBut C g' g'') : News g0 fl g'' ((D, LCg.lst ys) :: made) := by
  intro p hp
  refine ⟨hs.extBut _ _ ?_ (nw p hp).1, (nw p hp).2⟩
  cases List.mem_cons.mp hp with
  | inl e => rw [e]; exact Ne.symm nCD
  | inr e => exact offC p e
theorem ListComp_tup {s : Shared} {Q : Value → Shared → Prop} (_f : Fr g0 fl s.heap m)
    (c0 : closureFor scope env = pure cl) (c1 : ∀ y ∈ scope.names, y.2 ≠ .cell) (c2 : scope.kind = .function)
    (c4 : ∀ y ∈ scope.names, y.2 = .local → scope.names.lookup y.1 = some .local) (c3 : scope.names.lookup x = some .local)
    (h : wpAny (model prog w) A (eval iter env) (TupSrc prog w A g0 fl m env elt x scope cl (fun s₂ => LCg.FinE g0 fl m s₂ Q)) E s)
    (c5 : ∀ y, foldedSetIterable iter env y = pure y := by intro _; rfl) :
    wpAny (model prog w) A (eval (.ListComp elt [⟨.Name x px, iter, [], 0⟩] scope pos) env) Q E s := by
  rw [eval_ListComp]
  refine wpAny_comprehension_free (use := none) rfl c5 c0 c2 c4 ?_
  refine wpAny_mono h (fun tv s₁ T => ?_) fun _ _ e => e
  refine tup_block T c1 c2 c3 ?_
  intro g D C g' tk m' ys made f' nw' o1 hn hC hD nC nD nCD offC fin
  refine ⟨m', hn, fun g'' hs => ?_⟩
  exact fin D g'' tk (f'.change hs nC hC) (tup_let nw' nCD offC hs) o1
theorem Assign_tup {s : Shared} {y : Str} {py spos : Pos} {Q : Flow → Shared → Prop} (_f : Fr g0 fl s.heap m) (hl : env.locals = fl)
    (c6 : swapsWith (.ListComp elt [⟨.Name x px, iter, [], 0⟩] scope pos) (some (.Name y py)) spos.line env = pure true)
    (c0 : closureFor scope env = pure cl) (c1 : ∀ y ∈ scope.names, y.2 ≠ .cell) (c2 : scope.kind = .function)
    (c4 : ∀ y ∈ scope.names, y.2 = .local → scope.names.lookup y.1 = some .local) (c3 : scope.names.lookup x = some .local)
    (c7 : env.kindOf y = some .local) (c8 : (env.scope.kind == .class || (env.scope.kind == .module && env.locals != env.globals)) = false)
    (h : wpAny (model prog w) A (eval iter env) (TupSrc prog w A g0 fl m env elt x scope cl (fun s₂ => LCg.FinA g0 fl m s₂ y Q)) E s)
    (c5 : ∀ y, foldedSetIterable iter env y = pure y := by intro _; rfl) :
    wpAny (model prog w) A (exec (.Assign [.Name y py] (.ListComp elt [⟨.Name x px, iter, [], 0⟩] scope pos) spos) env) Q E s := by
  subst hl
  rw [exec_Assign_Name_used _ _ _ _ c6]
  refine wpAny_bind (wpAny_standAt (wpAny_bind ?_))
  show wpAny _ A (comprehension (.ListComp elt [⟨.Name x px, iter, [], 0⟩] scope pos) scope env _ (newList []) false (eval iter env) (some (assign (.Name y py) env)) >>= _) _ _ s
  have key := wpAny_comprehension_free (M := model prog w) (A := A) (E := E) (s := s) (env := env) (e := .ListComp elt [⟨.Name x px, iter, [], 0⟩] scope pos) (newAcc := newList []) (first := eval iter env)
    (use := some (assign (.Name y py) env)) (Q := fun _ s' => Q .next s') (pos := firstIterPos [⟨.Name x px, iter, [], 0⟩] pos) rfl c5 c0 c2 c4 (wpAny_mono h (fun tv s₁ T => tup_block T c1 c2 c3 ?_) fun _ _ e => e)
  · exact wpAny_bind (wpAny_mono key (fun _ s' q => wpAny_pure (wpAny_pure q)) fun _ _ e => e)
  · intro g D C g' tk m' ys made f' nw' o1 hn hC hD nC nD nCD offC fin
    show wpAny _ A (assign (.Name y py) env (.ref D)) _ _ _
    refine wpAny_assign_Name (wpAny_storeName_local c7 f'.ns (fun g2 hn2 hs2 => ?_) c8)
    have no : g0.get? env.locals = none := Heap.get?_none_of_le f'.above
    have keep2 : ∀ b o, g0.get? b = some o → g2.get? b = some o := by
      intro b o e
      refine hs2.extBut b o (fun q => ?_) (f'.keep b o e)
      rw [q, no] at e
      cases e
    have f2 : Fr g0 env.locals g2 (fun z => if z = y then some (.ref D) else m z) := ⟨hn2, keep2, f'.above⟩
    have nw2 : News g0 env.locals g2 ((D, LCg.lst ys) :: made) := fun p hp => ⟨hs2.extBut _ _ (nw' p hp).2.1 (nw' p hp).1, (nw' p hp).2⟩
    refine ⟨m', hn.sameBut hs2 nC, fun g3 hs => ?_⟩
    exact fin D g3 _ (f2.change hs nC hC) (tup_let nw2 nCD offC hs) o1
end
end Wz
/-! A call that hands back a plain value: what it made is forgotten. -/
namespace Wz
open PySem
structure Mark : Prop where
def Forget (h₀ : Heap) (L : Addr) (m : Str → Option Value) (news : List (Addr × Obj)) (s : Shared) (Q : Value → Shared → Prop) (v : Value) (s' : Shared) : Prop :=
  ∃ (h : Heap) (tk : Nat), s' = { s with heap := h, toks := tk } ∧ PyProof.Rows.Fr h₀ L h m ∧ PyProof.Rows.News h₀ L h news ∧
    ∀ (h : Heap) (tk : Nat), PyProof.Rows.Fr h₀ L h m → PyProof.Rows.News h₀ L h news → Q v { s with heap := h, toks := tk }
theorem forget_end {h₀ h : Heap} {L : Addr} {m : Str → Option Value} {news news' : List (Addr × Obj)} {s s' : Shared} {Q : Value → Shared → Prop} {v : Value} {tk : Nat}
    (hs : s' = { s with heap := h, toks := tk }) (F : PyProof.Rows.Fr h₀ L h m) (N : PyProof.Rows.News h₀ L h news') (sub : ∀ p ∈ news, p ∈ news')
    (q : ∀ (h : Heap) (tk : Nat), PyProof.Rows.Fr h₀ L h m → PyProof.Rows.News h₀ L h news → Q v { s with heap := h, toks := tk }) : Forget h₀ L m news s Q v s' :=
  ⟨h, tk, hs, F, fun p hp => N p (sub p hp), q⟩
theorem forget {M : Model} {A : Around} {E : Value → Shared → Prop} {Q : Value → Shared → Prop} {s : Shared} {h₀ : Heap} {L : Addr} {m : Str → Option Value} {news : List (Addr × Obj)} {c : Sem Value}
    (_ : PyProof.Rows.Fr h₀ L s.heap m) (_ : PyProof.Rows.News h₀ L s.heap news)
    (hc : Mark → wpAny M A c (fun v s₂ => Forget h₀ L m news s Q v s₂) E s) : wpAny M A c Q E s := by
  refine wpAny_mono (hc ⟨⟩) (fun v s₂ k => ?_) fun _ _ h => h
  obtain ⟨h, tk, hs, F, N, q⟩ := k
  subst hs
  exact q h tk F N
end Wz
namespace Wz
open PySem PyProof.Rows
theorem comp_end {g0 g : Heap} {fl I C D : Addr} {m : Str → Option Value} {s : Shared} {oI oC oD : Obj} {S : List (Addr × Obj) → Prop} {rest : Value → List (Addr × Obj) → Prop} {y : Value} {tk : Nat} {made : List (Addr × Obj)}
    (f : Fr g0 fl g m) (nw : News g0 fl g ((I, oI) :: (C, oC) :: (D, oD) :: made)) (off : LCg.Off3 I C D made) (hS : S made) (r : rest y made) :
    LCg.CompEnd g0 fl m s I oI C oC D oD S rest y { s with heap := g, toks := tk } := ⟨g, tk, made, rfl, f, nw, off, hS, r⟩
end Wz
open PySem PySem.W PyProof.Rows
/-! The request, number by number. -/
namespace Wz
theorem take_int {lo hi k : Int} {cs : List Codec} {ds : List WData} (h : (Codec.decAll (.int lo hi :: cs) (WData.int k :: ds)).isSome = true) :
    (lo ≤ k ∧ k ≤ hi) ∧ (Codec.decAll cs ds).isSome = true ∧ ∀ r, Codec.decAll cs ds = some r → Codec.decAll (.int lo hi :: cs) (WData.int k :: ds) = some (k, r) := by
  have e : Codec.decAll (.int lo hi :: cs) (WData.int k :: ds) = Codec.both Prod.mk (if Codec.inInt lo hi k = true then some k else none) (Codec.decAll cs ds) := rfl
  rw [e] at h ⊢
  cases h1 : Codec.inInt lo hi k with
  | false =>
    rw [h1] at h
    cases h
  | true =>
    rw [h1, if_pos rfl] at h
    have h2 := h1
    unfold Codec.inInt at h2
    simp only [Bool.and_eq_true, decide_eq_true_eq] at h2
    cases h3 : Codec.decAll cs ds with
    | none =>
      rw [h3] at h
      cases h
    | some r =>
      refine ⟨h2, rfl, fun r' e' => ?_⟩
      cases e'
      rfl
theorem touch_post {a b c d e f g i : Int} {l : List Int}
    (hpre : PySem.Challenge.rw_waterways_s05_touch.pre [.int a, .int b, .int c, .int d, .int e, .int f, .int g, .int i] = true)
    (h : l = PyWqatct.touch a b c d e f g i) :
    PySem.Challenge.rw_waterways_s05_touch.post [.int a, .int b, .int c, .int d, .int e, .int f, .int g, .int i] (ofPy (PyData.list (l.map PyData.int))) = true := by
  obtain ⟨_, k1, g1⟩ := take_int (os_pre_isSome hpre)
  obtain ⟨_, k2, g2⟩ := take_int k1
  obtain ⟨_, k3, g3⟩ := take_int k2
  obtain ⟨_, k4, g4⟩ := take_int k3
  obtain ⟨_, k5, g5⟩ := take_int k4
  obtain ⟨_, k6, g6⟩ := take_int k5
  obtain ⟨_, k7, g7⟩ := take_int k6
  obtain ⟨_, k8, g8⟩ := take_int k7
  refine os_post (g1 _ (g2 _ (g3 _ (g4 _ (g5 _ (g6 _ (g7 _ (g8 () rfl)))))))) ?_
  exact os_same_list (congrArg _ h)
end Wz
local macro_rules | `(tactic| walk_at "eval ListComp") => `(tactic| k_dflt (refine Wz.ListComp_tup (by k_asm) (by with_unfolding_all rfl) (by decide) (by rfl) (by decide) (by rfl) ?_))
local macro_rules | `(tactic| walk_at "exec Assign cons ListComp") => `(tactic|
  k_dflt (refine Wz.Assign_tup (by k_asm) (by rfl) (by with_unfolding_all rfl) (by with_unfolding_all rfl) (by decide) (by rfl) (by decide) (by rfl) (by rfl) (by rfl) ?_))
local macro_rules | `(tactic| walk_at "CompRest") => `(tactic| (
  (with_unfolding_all refine LCg.CompRest.succ ?_)
  (intro wv wI woI wC woC wD wm wh wt wE whv whC whx wF wN woff wne)
  (lcg_open whv)
  (have woff2 := woff)
  (try simp only [LCg.Off3, and_true] at woff)
  (refine' Wz.forget wF wN (fun wM => ?_))
  (try dsimp only)))
local macro_rules | `(tactic| walk_at "CompEnd") => `(tactic| (
  (rename LCg.Off3 _ _ _ _ => wo)
  (rename PyProof.Rows.News _ _ _ _ => wn)
  (k_dflt (refine Wz.comp_end (by assumption) wn wo (by lcg_src) ?_))))
set_option maxRecDepth 100000 in
set_option maxHeartbeats 64000000 in
theorem PySem.Challenge.cw_waterways_s05_touch_holds : PySem.Challenge.rw_waterways_s05_touch.Holds := by
  k_with "callWith ref nil" => (
    (with_reducible show wpAny _ _ (callWith _ (Value.ref _) _ (backTo _ (starEach [] _)) []) _ _ _)
    (k_dflt (refine' callWith_K0 ?wa ?wb ?_))
    (k_dflt (case wa => exact Frag.In.keeps (by k_asm) (PyProof.Rows.Fr.keep (by k_asm))))
    (k_dflt (case wb => k_is)))
  k_with "TupSrc" => k_dflt (refine Wz.tup_src (by rfl) (by k_asm) (by k_asm) (by k_mem) (by first | size_fits | exact Nat.le_of_ble_eq_true rfl) ?_; intro g9; lcg_lit)
  k_with "call ref" => (
    (fail_if_success (with_reducible show wpAny _ _ _ (fun v s₂ => Wz.Forget _ _ _ _ _ _ v s₂) _ _))
    (first
      | (with_reducible show wpAny _ _ (call _ [Value.ref _, Value.ref _, Value.ref _]) _ _ _)
      | ((fail_if_success (have : Wz.Mark := by assumption))
         (first
          | (with_reducible show wpAny _ _ (call _ [Value.ref _]) _ _ _)
          | (with_reducible show wpAny _ _ (call _ [Value.ref _, Value.ref _]) _ _ _)
          | (with_reducible show wpAny _ _ (call _ [Value.ref _, Value.ref _, Value.int _ _]) _ _ _))))
    (rename PyProof.Rows.Fr _ _ _ _ => jF)
    (rename PyProof.Rows.News _ _ _ _ => jN)
    (refine' Wz.forget jF jN (fun jM => ?_))
    (try dsimp only))
  k_with "Forget" => (
    (refine' Wz.forget_end ?js ?jf ?jn ?jh ?_)
    (case js => rfl)
    (case jf => assumption)
    (case jn => assumption)
    (case jh => kcj_all)
    (rename Wz.Mark => jM)
    (clear jM)
    (intro jh2 jt jF2 jN2)
    (try dsimp only)
    (try k_sweep)
    (try k_fold))
  open_ks with [.int 0, .int 1, .int 0, .int 0, .int 5, .int 1, .int 5, .int 0]
  all_goals first
    | exact Wz.touch_post (l := [-8]) hpre (Wz.touch_far_a (by assumption))
    | exact Wz.touch_post (l := [-8]) hpre (Wz.touch_same_a (by assumption))
    | exact Wz.touch_post (l := [-8]) hpre (Wz.touch_far_b (by assumption))
    | exact Wz.touch_post (l := [-8]) hpre (Wz.touch_same_b (by assumption))
    | exact Wz.touch_post (l := [0]) hpre (Wz.touch_aside_a (Wz.hulls_of (by assumption) (by assumption) (by assumption) (by assumption)) (by assumption))
    | exact Wz.touch_post (l := [0]) hpre (Wz.touch_aside_b (Wz.hulls_of (by assumption) (by assumption) (by assumption) (by assumption)) (by assumption))
    | exact Wz.touch_post (l := [1]) hpre (Wz.touch_in (Wz.hulls_of (by assumption) (by assumption) (by assumption) (by assumption)) ⟨(Wz.span_yes (by assumption) (by assumption) (by assumption) (by assumption) (by assumption)), (Wz.span_yes (by assumption) (by assumption) (by assumption) (by assumption) (by assumption)), (Wz.span_yes (by assumption) (by assumption) (by assumption) (by assumption) (by assumption)), (Wz.span_yes (by assumption) (by assumption) (by assumption) (by assumption) (by assumption))⟩ (by assumption) (by assumption))
    | exact Wz.touch_post (l := [0]) hpre (Wz.touch_out_1 (Wz.hulls_of (by assumption) (by assumption) (by assumption) (by assumption)) (Wz.span_no (by assumption) (by assumption) (by assumption) (by assumption) (by assumption)))
    | exact Wz.touch_post (l := [0]) hpre (Wz.touch_out_2 (Wz.hulls_of (by assumption) (by assumption) (by assumption) (by assumption)) (Wz.span_no (by assumption) (by assumption) (by assumption) (by assumption) (by assumption)))
    | exact Wz.touch_post (l := [0]) hpre (Wz.touch_out_3 (Wz.hulls_of (by assumption) (by assumption) (by assumption) (by assumption)) (Wz.span_no (by assumption) (by assumption) (by assumption) (by assumption) (by assumption)))
    | exact Wz.touch_post (l := [0]) hpre (Wz.touch_out_4 (Wz.hulls_of (by assumption) (by assumption) (by assumption) (by assumption)) (Wz.span_no (by assumption) (by assumption) (by assumption) (by assumption) (by assumption)))
    | exact Wz.touch_post (l := [1]) hpre (Wz.touch_never_x rfl (by assumption) (by assumption) (by assumption) (by assumption))
    | exact Wz.touch_post (l := [1]) hpre (Wz.touch_never_y rfl (by assumption) (by assumption) (by assumption) (by assumption))
#print axioms PySem.Challenge.cw_waterways_s05_touch_holds
