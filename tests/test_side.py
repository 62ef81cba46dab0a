import unittest

from tests.exact import BOUND, flat, grid, side_by_slope
from waterways.desk import side

LEFT = [1]
ON = [0]
RIGHT = [2]

# Eight directions of the compass and some between.
DIRECTIONS = [
    (1, 0), (0, 1), (-1, 0), (0, -1),
    (1, 1), (-1, 1), (-1, -1), (1, -1),
    (3, 1), (1, 3), (-2, 5), (-5, 2), (-7, -1), (-1, -4), (2, -3), (6, -1),
]


class Sides(unittest.TestCase):
    def test_line_to_the_north(self):
        self.assertEqual(side(0, 0, 0, 5, -1, 2), LEFT)
        self.assertEqual(side(0, 0, 0, 5, 1, 2), RIGHT)
        self.assertEqual(side(0, 0, 0, 5, 0, 2), ON)

    def test_line_to_the_east(self):
        self.assertEqual(side(-3, 2, 4, 2, 0, 3), LEFT)
        self.assertEqual(side(-3, 2, 4, 2, 0, 1), RIGHT)
        self.assertEqual(side(-3, 2, 4, 2, 0, 2), ON)

    def test_line_to_the_south(self):
        self.assertEqual(side(1, 5, 1, -5, 2, 0), LEFT)
        self.assertEqual(side(1, 5, 1, -5, 0, 0), RIGHT)

    def test_line_to_the_west(self):
        self.assertEqual(side(4, 2, -3, 2, 0, 1), LEFT)
        self.assertEqual(side(4, 2, -3, 2, 0, 3), RIGHT)

    def test_beside_the_line_beyond_its_ends(self):
        self.assertEqual(side(0, 0, 2, 1, 100, 51), LEFT)
        self.assertEqual(side(0, 0, 2, 1, 100, 49), RIGHT)
        self.assertEqual(side(0, 0, 2, 1, -100, -49), LEFT)
        self.assertEqual(side(0, 0, 2, 1, -100, -51), RIGHT)

    def test_every_direction(self):
        px, py = 7, -4
        for x, y in DIRECTIONS:
            with self.subTest(direction=(x, y)):
                line = (px, py, px + 2 * x, py + 2 * y)
                self.assertEqual(side(*line, px - y, py + x), LEFT)
                self.assertEqual(side(*line, px + y, py - x), RIGHT)

    def test_on_the_line_between_beyond_and_at_its_ends(self):
        px, py = 7, -4
        for x, y in DIRECTIONS:
            line = (px, py, px + 2 * x, py + 2 * y)
            for steps in (-9, -1, 0, 1, 2, 3, 20):
                with self.subTest(direction=(x, y), steps=steps):
                    self.assertEqual(side(*line, px + steps * x, py + steps * y), ON)

    def test_all_small_places(self):
        places = grid(2)
        for p in places:
            for q in places:
                if p == q:
                    continue
                for c in places:
                    self.assertEqual(side(*flat(p, q, c)), side_by_slope(p, q, c), (p, q, c))


class SidesAtTheBounds(unittest.TestCase):
    def test_corners(self):
        self.assertEqual(side(-BOUND, -BOUND, BOUND, -BOUND, BOUND, BOUND), LEFT)
        self.assertEqual(side(-BOUND, -BOUND, BOUND, BOUND, BOUND, -BOUND), RIGHT)
        self.assertEqual(side(-BOUND, -BOUND, BOUND, BOUND, 0, 0), ON)
        self.assertEqual(side(BOUND, -BOUND, -BOUND, BOUND, -BOUND + 1, BOUND - 1), ON)

    def test_a_cross_of_one_is_not_lost(self):
        line = (-BOUND, -BOUND, BOUND, BOUND - 1)
        self.assertEqual(side(*line, 1 - BOUND, 1 - BOUND), LEFT)
        self.assertEqual(side(*line, BOUND - 1, BOUND - 2), RIGHT)
        self.assertEqual(side(*line, BOUND, BOUND), LEFT)

    def test_all_places_near_the_bounds(self):
        numbers = (-BOUND, 1 - BOUND, 0, BOUND - 1, BOUND)
        places = [(x, y) for x in numbers for y in numbers]
        for p in places:
            for q in places:
                if p == q:
                    continue
                for c in places:
                    self.assertEqual(side(*flat(p, q, c)), side_by_slope(p, q, c), (p, q, c))


if __name__ == "__main__":
    unittest.main()
