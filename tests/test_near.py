import unittest
from math import gcd

from tests.exact import BOUND, drawn, flat, grid, near_by_parabola
from waterways.desk import near

NOTHING = [0, 0, 1]
LEVEL = (0, 0, 10, 0)
UPRIGHT = (3, -2, 3, 8)
SLANTING = (0, 0, 2, 1)


class NearestBetween(unittest.TestCase):
    def test_level(self):
        for x in (1, 5, 9):
            for y in (1, 4, 100):
                self.assertEqual(near(*LEVEL, x, y), [0, y * y, 1])
                self.assertEqual(near(*LEVEL, x, -y), [0, y * y, 1])

    def test_upright(self):
        for y in (-1, 3, 7):
            for away in (1, 4, 100):
                self.assertEqual(near(*UPRIGHT, 3 + away, y), [0, away * away, 1])
                self.assertEqual(near(*UPRIGHT, 3 - away, y), [0, away * away, 1])

    def test_slanting_on_the_left(self):
        self.assertEqual(near(*SLANTING, 1, 1), [0, 1, 5])
        self.assertEqual(near(*SLANTING, 0, 1), [0, 4, 5])
        self.assertEqual(near(*SLANTING, 1, 2), [0, 9, 5])
        self.assertEqual(near(0, 0, 3, -1, 2, 1), [0, 5, 2])

    def test_slanting_on_the_right(self):
        self.assertEqual(near(*SLANTING, 1, 0), [0, 1, 5])
        self.assertEqual(near(*SLANTING, 2, 0), [0, 4, 5])
        self.assertEqual(near(*SLANTING, 1, -1), [0, 9, 5])
        self.assertEqual(near(0, 0, 3, -1, 1, -1), [0, 2, 5])

    def test_not_hanging_on_where_the_straight_ends(self):
        for steps in (1, 2, 3, 1000):
            self.assertEqual(near(-2, -1, 2 * steps, steps, 1, 0), [0, 1, 5])
            self.assertEqual(near(-2 * steps, -steps, 2, 1, 0, 1), [0, 4, 5])


class NearestToAnEnd(unittest.TestCase):
    def test_p(self):
        self.assertEqual(near(*LEVEL, -3, 4), [0, 25, 1])
        self.assertEqual(near(*LEVEL, -3, -4), [0, 25, 1])
        self.assertEqual(near(*UPRIGHT, 4, -7), [0, 26, 1])
        self.assertEqual(near(*UPRIGHT, 2, -7), [0, 26, 1])
        self.assertEqual(near(*SLANTING, -2, 3), [0, 13, 1])
        self.assertEqual(near(*SLANTING, 1, -3), [0, 10, 1])

    def test_q(self):
        self.assertEqual(near(*LEVEL, 13, 4), [0, 25, 1])
        self.assertEqual(near(*LEVEL, 13, -4), [0, 25, 1])
        self.assertEqual(near(*UPRIGHT, 4, 13), [0, 26, 1])
        self.assertEqual(near(*UPRIGHT, 2, 13), [0, 26, 1])
        self.assertEqual(near(*SLANTING, 1, 4), [0, 10, 1])
        self.assertEqual(near(*SLANTING, 4, -2), [0, 13, 1])

    def test_on_the_line_beyond_p(self):
        self.assertEqual(near(*LEVEL, -1, 0), [0, 1, 1])
        self.assertEqual(near(*LEVEL, -50, 0), [0, 2500, 1])
        self.assertEqual(near(*UPRIGHT, 3, -4), [0, 4, 1])
        self.assertEqual(near(*SLANTING, -2, -1), [0, 5, 1])

    def test_on_the_line_beyond_q(self):
        self.assertEqual(near(*LEVEL, 11, 0), [0, 1, 1])
        self.assertEqual(near(*LEVEL, 60, 0), [0, 2500, 1])
        self.assertEqual(near(*UPRIGHT, 3, 10), [0, 4, 1])
        self.assertEqual(near(*SLANTING, 4, 2), [0, 5, 1])


class StraightAcrossFromAnEnd(unittest.TestCase):
    def test_level(self):
        for y in (3, -3):
            for x in (0, 10):
                self.assertEqual(near(*LEVEL, x, y), [0, 9, 1])
            for x in (-1, 11):
                self.assertEqual(near(*LEVEL, x, y), [0, 10, 1])
            for x in (1, 9):
                self.assertEqual(near(*LEVEL, x, y), [0, 9, 1])

    def test_slanting_from_p(self):
        for k in (-3, -1, 1, 3):
            self.assertEqual(near(*SLANTING, -k, 2 * k), [0, 5 * k * k, 1])
        # A dot of 1 behind p, then a dot of 1 before it.
        self.assertEqual(near(*SLANTING, -1, 1), [0, 2, 1])
        self.assertEqual(near(*SLANTING, 0, 1), [0, 4, 5])
        self.assertEqual(near(*SLANTING, 0, -1), [0, 1, 1])
        self.assertEqual(near(*SLANTING, 1, -1), [0, 9, 5])

    def test_slanting_from_q(self):
        for k in (-3, -1, 1, 3):
            self.assertEqual(near(*SLANTING, 2 - k, 1 + 2 * k), [0, 5 * k * k, 1])
        self.assertEqual(near(*SLANTING, 2, 2), [0, 1, 1])
        self.assertEqual(near(*SLANTING, 1, 2), [0, 9, 5])
        self.assertEqual(near(*SLANTING, 3, 0), [0, 2, 1])
        self.assertEqual(near(*SLANTING, 2, 0), [0, 4, 5])


class OnTheStraight(unittest.TestCase):
    def test_at_the_ends(self):
        for line in (LEVEL, UPRIGHT, SLANTING, (5, 5, -1, 2)):
            self.assertEqual(near(*line, *line[:2]), NOTHING)
            self.assertEqual(near(*line, *line[2:]), NOTHING)

    def test_between(self):
        self.assertEqual(near(*LEVEL, 4, 0), NOTHING)
        self.assertEqual(near(*UPRIGHT, 3, 0), NOTHING)
        self.assertEqual(near(-4, -2, 6, 3, 2, 1), NOTHING)
        self.assertEqual(near(6, 3, -4, -2, 4, 2), NOTHING)


class OnePlace(unittest.TestCase):
    def test_c_there(self):
        for place in ((0, 0), (7, -4), (BOUND, -BOUND), (-BOUND, -BOUND)):
            self.assertEqual(near(*place, *place, *place), NOTHING)

    def test_c_elsewhere(self):
        self.assertEqual(near(0, 0, 0, 0, 3, 4), [0, 25, 1])
        self.assertEqual(near(7, -4, 7, -4, 6, -4), [0, 1, 1])
        self.assertEqual(near(7, -4, 7, -4, 7, -6), [0, 4, 1])
        self.assertEqual(near(-BOUND, -BOUND, -BOUND, -BOUND, BOUND, BOUND), [0, 8796093022208, 1])


class LowestTerms(unittest.TestCase):
    def test_a_great_common_divisor(self):
        # The cross is 7 steps, its square 49 steps steps, to a length's square of 5 steps steps.
        for steps in (2, 6, 35, 1000, 100000, 524288):
            self.assertEqual(near(0, 0, 2 * steps, steps, 1, 4), [0, 49, 5])

    def test_a_common_divisor_that_leaves_a_whole_number(self):
        self.assertEqual(near(0, 0, 4, 4, 3, 1), [0, 2, 1])
        self.assertEqual(near(0, 0, 300, 400, -40, 180), [0, 19600, 1])

    def test_a_common_divisor_of_a_part(self):
        self.assertEqual(near(0, 0, 3, 1, 1, 1), [0, 2, 5])
        self.assertEqual(near(0, 0, 3, 3, 2, 1), [0, 1, 2])

    def test_drawn(self):
        for reach in (4, 30, BOUND):
            for places in drawn(300, 3, reach):
                first, numerator, denominator = near(*flat(*places))
                self.assertEqual(first, 0)
                self.assertGreaterEqual(numerator, 0)
                self.assertGreater(denominator, 0)
                self.assertEqual(gcd(numerator, denominator), 1, places)


class Agrees(unittest.TestCase):
    def test_all_small_places(self):
        for p in grid(2):
            for q in grid(2):
                for c in grid(3):
                    self.assertEqual(near(*flat(p, q, c)), near_by_parabola(p, q, c), (p, q, c))

    def test_drawn_places(self):
        for reach in (10, 1000, BOUND):
            for p, q, c in drawn(500, 3, reach):
                self.assertEqual(near(*flat(p, q, c)), near_by_parabola(p, q, c), (p, q, c))


class NearAtTheBounds(unittest.TestCase):
    def test_the_greatest_distance(self):
        self.assertEqual(near(BOUND, BOUND, BOUND, BOUND - 1, -BOUND, -BOUND), [0, 8796088827905, 1])
        self.assertEqual(near(BOUND, BOUND, BOUND - 1, BOUND, -BOUND, -BOUND), [0, 8796088827905, 1])

    def test_the_greatest_common_divisor(self):
        # The cross is 2 to the 42nd, the length's square 2 to the 43rd.
        diagonal = (-BOUND, -BOUND, BOUND, BOUND)
        self.assertEqual(near(*diagonal, -BOUND, BOUND), [0, 2199023255552, 1])
        self.assertEqual(near(*diagonal, BOUND, -BOUND), [0, 2199023255552, 1])
        self.assertEqual(near(*diagonal, BOUND, 1 - BOUND), [0, 4398042316801, 2])

    def test_great_fractions_are_not_rounded(self):
        # With n = 2 * BOUND: (n - 1) to the 4th, and n n + (n - 1) (n - 1), which have no common divisor.
        answer = [0, 19342776220372307646873601, 8796088827905]
        line = (-BOUND, 1 - BOUND, BOUND, BOUND)
        self.assertEqual(near(*line, 1 - BOUND, BOUND), answer)
        self.assertEqual(near(*line, BOUND - 1, 1 - BOUND), answer)
        # A cross less by 1: the square of (n - 1) (n - 1) - 1, and both are five times this.
        self.assertEqual(near(*line, BOUND, 2 - BOUND), [0, 3868555244072702312448000, 1759217765581])

    def test_the_smallest_that_is_not_nothing(self):
        line = (-BOUND, 1 - BOUND, BOUND, BOUND)
        self.assertEqual(near(*line, 1 - BOUND, 2 - BOUND), [0, 1, 8796088827905])
        self.assertEqual(near(*line, BOUND - 1, BOUND - 1), [0, 1, 8796088827905])

    def test_a_hair_beside_straight_across(self):
        # The dot is 0, then 1, then -1: across from p, just within, just beyond.
        line = (0, 0, BOUND, BOUND - 1)
        self.assertEqual(near(*line, 1 - BOUND, BOUND), [0, 2199021158401, 1])
        self.assertEqual(near(*line, 2 - BOUND, BOUND - 1), [0, 4835684831740831251562500, 2199021158401])
        self.assertEqual(near(*line, BOUND - 2, 1 - BOUND), [0, 2199016964101, 1])

    def test_all_places_near_the_bounds(self):
        numbers = (-BOUND, 1 - BOUND, 0, BOUND - 1, BOUND)
        places = [(x, y) for x in numbers for y in numbers]
        for p in places:
            for q in places:
                for c in places:
                    answer = near(*flat(p, q, c))
                    if answer != near_by_parabola(p, q, c):
                        self.fail((p, q, c, answer))


if __name__ == "__main__":
    unittest.main()
