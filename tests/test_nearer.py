import unittest

from tests.exact import BOUND, drawn, flat, grid, nearer_by_parabola
from waterways.desk import nearer

AS_NEAR = [0]
C_IS = [1]
D_IS = [2]
LEVEL = (0, 0, 10, 0)
SLANTING = (0, 0, 2, 1)


class Nearer(unittest.TestCase):
    def told(self, line, c, d, answer):
        """Asks with c and d, then with c and d changed."""
        self.assertEqual(nearer(*line, *c, *d), answer, (line, c, d))
        self.assertEqual(nearer(*line, *d, *c), {1: D_IS, 2: C_IS, 0: AS_NEAR}[answer[0]], (line, d, c))

    def test_both_nearest_to_p(self):
        self.told(LEVEL, (-1, 1), (-2, 1), C_IS)
        self.told(LEVEL, (-2, -2), (-3, 0), C_IS)
        self.told(LEVEL, (-3, 4), (-4, -3), AS_NEAR)
        self.told(SLANTING, (-2, -1), (0, -2), D_IS)

    def test_both_nearest_to_q(self):
        self.told(LEVEL, (11, 1), (12, 1), C_IS)
        self.told(LEVEL, (12, -2), (13, 0), C_IS)
        self.told(LEVEL, (13, 4), (14, -3), AS_NEAR)
        self.told(SLANTING, (4, 2), (2, 3), D_IS)

    def test_nearest_to_the_two_ends(self):
        self.told(LEVEL, (-1, 1), (12, 1), C_IS)
        self.told(LEVEL, (-3, 1), (12, 1), D_IS)
        self.told(LEVEL, (-3, 4), (14, -3), AS_NEAR)
        self.told(SLANTING, (-2, -1), (4, 2), AS_NEAR)

    def test_both_nearest_to_places_between(self):
        self.told(LEVEL, (2, 1), (8, 2), C_IS)
        self.told(LEVEL, (2, -1), (8, 2), C_IS)
        self.told(LEVEL, (2, 3), (8, 3), AS_NEAR)
        self.told(SLANTING, (1, 1), (0, 1), C_IS)
        self.told(SLANTING, (1, -1), (2, 0), D_IS)

    def test_one_to_an_end_and_one_between(self):
        self.told(LEVEL, (-3, 4), (5, 5), AS_NEAR)
        self.told(LEVEL, (13, -4), (5, 5), AS_NEAR)
        self.told(LEVEL, (-3, 4), (5, 4), D_IS)
        self.told(LEVEL, (13, 4), (5, 6), C_IS)
        self.told(SLANTING, (0, -1), (0, 1), D_IS)
        self.told(SLANTING, (3, 1), (1, 2), C_IS)

    def test_one_place_for_c_and_d(self):
        for place in ((0, 0), (10, 0), (5, 0), (5, 3), (5, -3), (-4, 2), (17, 1)):
            self.told(LEVEL, place, place, AS_NEAR)
            self.told(SLANTING, place, place, AS_NEAR)

    def test_as_near_on_the_two_sides(self):
        self.told(LEVEL, (4, 7), (4, -7), AS_NEAR)
        self.told(LEVEL, (1, 7), (9, -7), AS_NEAR)
        self.told(SLANTING, (1, 1), (1, 0), AS_NEAR)
        self.told(SLANTING, (0, 1), (2, 0), AS_NEAR)
        self.told(SLANTING, (-1, 2), (1, -2), AS_NEAR)

    def test_on_the_straight(self):
        self.told(LEVEL, (0, 0), (10, 0), AS_NEAR)
        self.told(LEVEL, (4, 0), (10, 0), AS_NEAR)
        self.told(LEVEL, (4, 0), (4, 1), C_IS)
        self.told(LEVEL, (0, 0), (-1, 0), C_IS)
        self.told(LEVEL, (11, 0), (10, 0), D_IS)

    def test_on_the_line_but_beyond_the_straight_is_not_near(self):
        self.told(LEVEL, (-5, 0), (5, 4), D_IS)
        self.told(LEVEL, (15, 0), (5, -4), D_IS)
        self.told(LEVEL, (15, 0), (5, -5), AS_NEAR)

    def test_the_line_is_one_place(self):
        point = (2, 3, 2, 3)
        self.told(point, (2, 3), (2, 4), C_IS)
        self.told(point, (5, 7), (4, 4), D_IS)
        self.told(point, (5, 7), (-2, 0), AS_NEAR)
        self.told(point, (2, 3), (2, 3), AS_NEAR)


class Agrees(unittest.TestCase):
    def test_all_small_places(self):
        for p, q in (((0, 0), (0, 0)), ((0, 0), (1, 0)), ((0, 1), (0, -1)), ((-1, 0), (1, 1)), ((1, -1), (-1, 0))):
            for c in grid(3):
                for d in grid(3):
                    self.assertEqual(nearer(*flat(p, q, c, d)), nearer_by_parabola(p, q, c, d), (p, q, c, d))

    def test_drawn_places(self):
        for reach in (3, 50, BOUND):
            told = []
            for places in drawn(500, 4, reach):
                told.append(nearer(*flat(*places)))
                self.assertEqual(told[-1], nearer_by_parabola(*places), places)
            self.assertGreater(told.count(C_IS), 100)
            self.assertGreater(told.count(D_IS), 100)


class NearerAtTheBounds(unittest.TestCase):
    def test_a_difference_as_small_as_can_be(self):
        # To places between and to p: c is nearer by 1 / 2199021158401, the length's square.
        line = (0, 0, BOUND, BOUND - 1)
        c = (2 - BOUND, BOUND - 1)
        d = (1 - BOUND, BOUND - 2)
        self.assertEqual(nearer(*line, *c, *d), C_IS)
        self.assertEqual(nearer(*line, *d, *c), D_IS)
        # The other way round: d, nearest to p, is nearer by 1 / 2199014866954.
        line = (0, -BOUND, BOUND - 1, -3)
        c = (-524286, 524285)
        d = (2 - BOUND, -2)
        self.assertEqual(nearer(*line, *c, *d), D_IS)
        self.assertEqual(nearer(*line, *d, *c), C_IS)

    def test_great_fractions_are_not_rounded(self):
        line = (-BOUND, 1 - BOUND, BOUND, BOUND)
        c = (1 - BOUND, BOUND)
        self.assertEqual(nearer(*line, *c, BOUND - 1, 1 - BOUND), AS_NEAR)
        # The cross of this one is less by 1, of 2 to the 42nd.
        self.assertEqual(nearer(*line, *c, BOUND, 2 - BOUND), D_IS)
        self.assertEqual(nearer(*line, BOUND, 2 - BOUND, *c), C_IS)

    def test_great_whole_numbers_that_differ_by_1(self):
        self.assertEqual(nearer(0, 0, 0, 0, BOUND, 0, BOUND, 1), C_IS)
        self.assertEqual(nearer(0, 0, 0, 0, 1, -BOUND, 0, -BOUND), D_IS)
        self.assertEqual(nearer(BOUND, BOUND, BOUND, BOUND, -BOUND, BOUND - 1, -BOUND, BOUND), D_IS)

    def test_corners(self):
        diagonal = (-BOUND, -BOUND, BOUND, BOUND)
        self.assertEqual(nearer(*diagonal, -BOUND, BOUND, BOUND, -BOUND), AS_NEAR)
        self.assertEqual(nearer(*diagonal, 1 - BOUND, BOUND, BOUND, -BOUND), C_IS)
        self.assertEqual(nearer(*diagonal, -BOUND, BOUND, BOUND, 1 - BOUND), D_IS)

    def test_all_places_near_the_bounds(self):
        numbers = (-BOUND, 1 - BOUND, BOUND)
        places = [(x, y) for x in numbers for y in numbers]
        for p in places:
            for q in places:
                for c in places:
                    for d in places:
                        answer = nearer(*flat(p, q, c, d))
                        if answer != nearer_by_parabola(p, q, c, d):
                            self.fail((p, q, c, d, answer))


if __name__ == "__main__":
    unittest.main()
