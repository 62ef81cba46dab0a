import unittest

from tests.exact import BOUND, flat, grid, over_by_meeting
from waterways.desk import over

NOT_OVER = [0]
EAST = (0, 0, 10, 0)  # its left is the north


class GoesOver(unittest.TestCase):
    def test_inside_the_straight(self):
        self.assertEqual(over(*EAST, 5, -1, 5, 1), [1, 1, 2])
        self.assertEqual(over(*EAST, 5, -2, 5, 1), [1, 2, 3])
        self.assertEqual(over(*EAST, 1, -3, 9, 4), [1, 3, 7])

    def test_at_p(self):
        self.assertEqual(over(*EAST, 0, -1, 0, 2), [1, 1, 3])
        self.assertEqual(over(*EAST, -1, -1, 1, 1), [1, 1, 2])
        self.assertEqual(over(*EAST, 1, -1, -1, 1), [1, 1, 2])

    def test_at_q(self):
        self.assertEqual(over(*EAST, 10, -2, 10, 1), [1, 2, 3])
        self.assertEqual(over(*EAST, 9, -1, 11, 1), [1, 1, 2])
        self.assertEqual(over(*EAST, 11, -1, 9, 1), [1, 1, 2])

    def test_from_the_line(self):
        for x in (0, 1, 5, 9, 10):
            self.assertEqual(over(*EAST, x, 0, x, 7), [1, 0, 1])
            self.assertEqual(over(*EAST, x, 0, -50, 1), [1, 0, 1])
            self.assertEqual(over(*EAST, x, 0, 50, 1), [1, 0, 1])

    def test_between_whole_places(self):
        # They meet at (1/2, 0), then just within each end of a line of length 1.
        self.assertEqual(over(0, 0, 1, 0, 0, -1, 1, 1), [1, 1, 2])
        self.assertEqual(over(0, 0, 1, 0, -1, -100, 1, 99), [1, 100, 199])
        self.assertEqual(over(0, 0, 1, 0, 2, -100, 0, 99), [1, 100, 199])

    def test_upright_and_slanting_lines(self):
        self.assertEqual(over(0, 0, 0, 10, 1, 5, -3, 5), [1, 1, 4])
        self.assertEqual(over(0, 10, 0, 0, -3, 5, 1, 5), [1, 3, 4])
        self.assertEqual(over(0, 0, -10, 0, 0, 3, 0, -1), [1, 3, 4])
        self.assertEqual(over(0, 0, 4, 4, 3, 1, 1, 3), [1, 1, 2])
        self.assertEqual(over(4, 4, 0, 0, 1, 3, 3, 1), [1, 1, 2])

    def test_the_fraction_does_not_hang_on_the_length_of_the_line(self):
        for length in (6, 7, 10, 1000):
            self.assertEqual(over(0, 0, length, 0, 5, -6, 5, 9), [1, 2, 5])


class DoesNotGoOver(unittest.TestCase):
    def test_meets_the_line_beyond_p(self):
        self.assertEqual(over(*EAST, -1, -1, -1, 1), NOT_OVER)
        self.assertEqual(over(*EAST, -50, -1, -50, 1), NOT_OVER)
        self.assertEqual(over(*EAST, -2, -1, 1, 1), NOT_OVER)

    def test_meets_the_line_beyond_q(self):
        self.assertEqual(over(*EAST, 11, -1, 11, 1), NOT_OVER)
        self.assertEqual(over(*EAST, 50, -1, 50, 1), NOT_OVER)
        self.assertEqual(over(*EAST, 12, -1, 9, 1), NOT_OVER)

    def test_from_the_line_beyond_its_ends(self):
        self.assertEqual(over(*EAST, -1, 0, -1, 1), NOT_OVER)
        self.assertEqual(over(*EAST, -1, 0, 5, 1), NOT_OVER)
        self.assertEqual(over(*EAST, 11, 0, 11, 1), NOT_OVER)
        self.assertEqual(over(*EAST, 11, 0, 5, 1), NOT_OVER)

    def test_ends_on_the_line(self):
        for x in (-1, 0, 5, 10, 11):
            self.assertEqual(over(*EAST, x, -4, x, 0), NOT_OVER)
            self.assertEqual(over(*EAST, x, 4, x, 0), NOT_OVER)

    def test_both_on_the_left(self):
        self.assertEqual(over(*EAST, 5, 1, 5, 2), NOT_OVER)
        self.assertEqual(over(*EAST, 5, 2, 5, 1), NOT_OVER)
        self.assertEqual(over(*EAST, 2, 3, 8, 3), NOT_OVER)

    def test_both_on_the_right(self):
        self.assertEqual(over(*EAST, 5, -1, 5, -2), NOT_OVER)
        self.assertEqual(over(*EAST, 5, -2, 5, -1), NOT_OVER)

    def test_both_on_the_line(self):
        for c in (-5, 0, 3, 10, 15):
            for d in (-5, 0, 3, 10, 15):
                self.assertEqual(over(*EAST, c, 0, d, 0), NOT_OVER)

    def test_from_the_left_to_the_right(self):
        self.assertEqual(over(*EAST, 5, 1, 5, -1), NOT_OVER)
        self.assertEqual(over(*EAST, 0, 1, 0, -1), NOT_OVER)
        self.assertEqual(over(*EAST, 10, 1, 10, -1), NOT_OVER)

    def test_from_the_line_to_the_right(self):
        self.assertEqual(over(*EAST, 5, 0, 5, -1), NOT_OVER)

    def test_one_place(self):
        for place in ((5, 1), (5, 0), (5, -1), (0, 0), (10, 0), (-3, 0)):
            self.assertEqual(over(*EAST, *place, *place), NOT_OVER)


class Agrees(unittest.TestCase):
    def test_all_small_places(self):
        places = grid(1)
        for p in places:
            for q in grid(2):
                if p == q:
                    continue
                for c in grid(2):
                    for d in places:
                        self.assertEqual(over(*flat(p, q, c, d)), over_by_meeting(p, q, c, d), (p, q, c, d))

    def test_all_small_ways_by_one_slanting_line(self):
        p, q = (-2, -1), (2, 1)
        for c in grid(5):
            for d in grid(5):
                self.assertEqual(over(*flat(p, q, c, d)), over_by_meeting(p, q, c, d), (c, d))


class OverAtTheBounds(unittest.TestCase):
    def test_the_greatest_crosses(self):
        line = (-BOUND, -BOUND, BOUND, BOUND)
        self.assertEqual(over(*line, BOUND, -BOUND, -BOUND, BOUND), [1, 1, 2])
        self.assertEqual(over(*line, BOUND, 1 - BOUND, -BOUND, BOUND), [1, 2097151, 4194303])
        self.assertEqual(over(*line, BOUND, -BOUND, -BOUND, BOUND - 1), [1, 2097152, 4194303])
        self.assertEqual(over(*line, 0, 0, -BOUND, BOUND), [1, 0, 1])

    def test_great_fractions_are_not_rounded(self):
        # With n = 2 * BOUND: s = n n - n + 1 and t = n n - n, which have no common divisor.
        answer = [1, 4398044413953, 8796088827905]
        self.assertEqual(over(-BOUND, 1 - BOUND, BOUND, BOUND, BOUND - 1, -BOUND, -BOUND, BOUND), answer)
        # The same way and line, turned by a quarter.
        self.assertEqual(over(BOUND - 1, -BOUND, -BOUND, BOUND, BOUND, BOUND - 1, -BOUND, -BOUND), answer)
        # From as far on the right as can be, past the diagonal by one step: almost the whole way, and almost none.
        diagonal = (-BOUND, -BOUND, BOUND, BOUND)
        self.assertEqual(over(*diagonal, BOUND, -BOUND, 0, 1), [1, 2097152, 2097153])
        self.assertEqual(over(*diagonal, 1, 0, -BOUND, BOUND), [1, 1, 2097153])

    def test_a_hair_beside_an_end(self):
        way = (-BOUND, -BOUND, BOUND, BOUND - 1)
        # p a cross of 1 to the way's left, q far on its right: over; then p a cross of 1 to its right: not.
        self.assertEqual(over(1 - BOUND, 1 - BOUND, BOUND, -BOUND, *way)[0], 1)
        self.assertEqual(over(BOUND - 1, BOUND - 2, BOUND, -BOUND, *way), NOT_OVER)
        # The same of q.
        self.assertEqual(over(-BOUND, BOUND, BOUND - 1, BOUND - 2, *way)[0], 1)
        self.assertEqual(over(-BOUND, BOUND, 1 - BOUND, 1 - BOUND, *way), NOT_OVER)

    def test_all_places_near_the_bounds(self):
        numbers = (-BOUND, 1 - BOUND, BOUND - 1, BOUND)
        places = [(x, y) for x in numbers for y in numbers]
        for p in places:
            for q in places:
                if p == q:
                    continue
                for c in places:
                    for d in places:
                        answer = over(*flat(p, q, c, d))
                        if answer != over_by_meeting(p, q, c, d):
                            self.fail((p, q, c, d, answer))


if __name__ == "__main__":
    unittest.main()
