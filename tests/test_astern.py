import unittest

from tests.exact import BOUND, astern_by_distances, drawn_hulls, flat, grid
from waterways.desk import astern, touch

OVERLAP = [0]
A_IS = [1]
B_IS = [2]
EACH_IS = [3]

# Eight directions of the compass and some between.
DIRECTIONS = [
    (1, 0), (0, 1), (-1, 0), (0, -1),
    (1, 1), (-1, 1), (-1, -1), (1, -1),
    (3, 1), (1, 3), (-2, 5), (-5, 2), (-7, -1), (-1, -4), (2, -3), (6, -1),
]


class Asking(unittest.TestCase):
    def told(self, a, b, answer):
        """Asks with a and b, then with a and b changed."""
        self.assertEqual(astern(*a, *b), answer, (a, b))
        self.assertEqual(astern(*b, *a), {1: B_IS, 2: A_IS, 0: OVERLAP, 3: EACH_IS}[answer[0]], (b, a))


class OneAstern(Asking):
    def test_in_one_line(self):
        # Bow first: b heads north from (0, 0) to (0, 4).
        self.assertEqual(astern(0, -1, 0, -5, 0, 4, 0, 0), [1])
        self.assertEqual(astern(0, 9, 0, 5, 0, 4, 0, 0), [2])
        self.told((0, -1, 0, -5), (0, 4, 0, 0), A_IS)
        self.told((-3, 0, -7, 0), (4, 0, 0, 0), A_IS)

    def test_aside_but_astern(self):
        self.told((20, -1, 20, -5), (0, 4, 0, 0), A_IS)
        self.told((-20, -1, -20, -5), (0, 4, 0, 0), A_IS)
        self.told((-1, 300, -5, 300), (4, 0, 0, 0), A_IS)
        self.told((0, -2, -2, -4), (3, 3, 1, 1), A_IS)

    def test_heading_across(self):
        # a heads east or west behind b: b is not wholly behind a's stern.
        self.told((3, -2, -3, -2), (0, 4, 0, 0), A_IS)
        self.told((-3, -2, 3, -2), (0, 4, 0, 0), A_IS)

    def test_heading_towards_one_another(self):
        # Both bows come together: neither is behind the other's stern.
        self.told((0, -1, 0, -5), (0, 0, 0, 4), OVERLAP)


class Overlapping(Asking):
    def test_side_by_side(self):
        self.told((1, 4, 1, 0), (0, 4, 0, 0), OVERLAP)
        self.told((1, 6, 1, 2), (0, 4, 0, 0), OVERLAP)
        self.told((1, 2, 1, -2), (0, 4, 0, 0), OVERLAP)
        self.told((1, 0, 1, 4), (0, 4, 0, 0), OVERLAP)

    def test_far_aside(self):
        self.told((1000, 6, 1000, 2), (0, 4, 0, 0), OVERLAP)
        self.told((3, 3, 1, 1), (100, -97, 98, -99), OVERLAP)

    def test_hulls_that_cross(self):
        self.told((2, 2, -2, 2), (0, 4, 0, 0), OVERLAP)
        self.told((2, 2, -2, -2), (-2, 2, 2, -2), OVERLAP)
        self.told((1, 1, 0, 0), (0, 1, 1, 0), OVERLAP)

    def test_the_same_hull_twice(self):
        self.told((0, 4, 0, 0), (0, 4, 0, 0), OVERLAP)
        self.told((0, 4, 0, 0), (0, 0, 0, 4), OVERLAP)
        self.told((5, -1, 2, 7), (5, -1, 2, 7), OVERLAP)

    def test_ahead_with_its_bow_towards_the_other(self):
        self.told((0, 5, 0, 9), (0, 4, 0, 0), OVERLAP)

    def test_hulls_that_touch_overlap(self):
        for reach in (2, 3, 5):
            touching = [places for places in drawn_hulls(2000, reach) if touch(*flat(*places)) == [1]]
            self.assertGreater(len(touching), 300)
            for places in touching:
                self.assertEqual(astern(*flat(*places)), OVERLAP, places)


class EachAstern(Asking):
    def test_heading_away_from_each_other(self):
        self.assertEqual(astern(0, 5, 0, 1, 0, -5, 0, -1), [3])
        self.told((5, 0, 1, 0), (-5, 0, -1, 0), EACH_IS)
        self.told((5, 5, 1, 1), (-5, -5, -1, -1), EACH_IS)
        self.told((5, 40, 1, 40), (-5, 0, -1, 0), EACH_IS)

    def test_heading_apart_at_a_corner(self):
        # One heads north, the other east, and each stands behind the other's stern.
        self.told((-2, 9, -2, 5), (4, 1, 1, 1), EACH_IS)
        self.told((3, 5, 1, 3), (3, -5, 1, -3), EACH_IS)
        self.told((1, 5, 0, 3), (1, -5, 0, -3), EACH_IS)

    def test_stern_to_stern_at_one_place(self):
        self.told((5, 0, 1, 0), (-5, 0, 1, 0), OVERLAP)
        self.told((5, 0, 1, 0), (-5, 0, 0, 0), EACH_IS)


class AtTheStern(Asking):
    # b heads north, its stern at the level 0; a lies east and west of it so that b is never astern of a.
    B = (0, 4, 0, 0)

    def test_one_place_at_0_and_the_other_below(self):
        self.told((3, 0, -3, -1), self.B, OVERLAP)
        self.told((3, -1, -3, 0), self.B, OVERLAP)
        self.told((3, 0, -3, -100), self.B, OVERLAP)
        self.told((0, 0, 0, -3), self.B, OVERLAP)

    def test_both_below(self):
        self.told((3, -1, -3, -1), self.B, A_IS)
        self.told((3, -1, -3, -2), self.B, A_IS)
        self.told((0, -1, 0, -3), self.B, A_IS)

    def test_both_at_0(self):
        self.told((3, 0, -3, 0), self.B, OVERLAP)
        self.told((-3, 0, 3, 0), self.B, OVERLAP)
        self.told((0, 0, 3, 0), self.B, OVERLAP)

    def test_one_below_and_one_above(self):
        self.told((3, 1, -3, -1), self.B, OVERLAP)
        self.told((3, -1, -3, 1), self.B, OVERLAP)
        self.told((3, -1, -3, 100), self.B, OVERLAP)
        self.told((3, -100, -3, 1), self.B, OVERLAP)

    def test_one_at_0_and_one_above(self):
        self.told((3, 1, -3, 0), self.B, OVERLAP)
        self.told((3, 0, -3, 1), self.B, OVERLAP)


class Headings(Asking):
    def beside(self, direction, ahead, aside):
        """The place this many steps ahead of (7, -4) and this many to the left of it."""
        x, y = direction
        return (7 + ahead * x - aside * y, -4 + ahead * y + aside * x)

    def hull(self, direction, bow, stern):
        return self.beside(direction, *bow) + self.beside(direction, *stern)

    def test_every_direction(self):
        for direction in DIRECTIONS:
            b = self.hull(direction, (3, 0), (0, 0))
            for aside in (-9, -1, 0, 1, 9):
                self.told(self.hull(direction, (-1, aside), (-3, aside)), b, A_IS)
                self.told(self.hull(direction, (0, aside), (-3, aside)), b, OVERLAP)
                self.told(self.hull(direction, (7, aside), (4, aside)), b, B_IS)
                self.told(self.hull(direction, (7, aside), (3, aside)), b, OVERLAP)
                self.told(self.hull(direction, (-3, aside), (-1, aside)), b, EACH_IS)
                self.told(self.hull(direction, (-3, aside), (0, aside)), b, OVERLAP)
                self.told(self.hull(direction, (4, aside), (7, aside)), b, OVERLAP)
                self.told(self.hull(direction, (5, aside), (1, aside)), b, OVERLAP)

    def test_across_every_direction(self):
        for direction in DIRECTIONS:
            b = self.hull(direction, (3, 0), (0, 0))
            for ahead, answer in ((-2, A_IS), (-1, A_IS), (0, OVERLAP), (1, OVERLAP), (5, OVERLAP)):
                self.told(self.hull(direction, (ahead, 2), (ahead, -2)), b, answer)
                self.told(self.hull(direction, (ahead, -2), (ahead, 2)), b, answer)
            # Wholly to one side and heading away from b, a has b astern besides.
            for ahead, answer in ((-2, EACH_IS), (-1, EACH_IS), (0, B_IS), (1, B_IS), (5, B_IS)):
                self.told(self.hull(direction, (ahead, 3), (ahead, 1)), b, answer)
                self.told(self.hull(direction, (ahead, -3), (ahead, -1)), b, answer)
            for ahead, answer in ((-2, A_IS), (-1, A_IS), (0, OVERLAP), (1, OVERLAP), (5, OVERLAP)):
                self.told(self.hull(direction, (ahead, 1), (ahead, 3)), b, answer)
                self.told(self.hull(direction, (ahead, -1), (ahead, -3)), b, answer)


class Agrees(unittest.TestCase):
    def test_all_small_hulls(self):
        places = grid(1) + [(2, -1), (-2, 3)]
        hulls = [(bow, stern) for bow in places for stern in places if bow != stern]
        for a in hulls:
            for b in hulls:
                self.assertEqual(astern(*flat(*a, *b)), astern_by_distances(*a, *b), (a, b))

    def test_drawn_hulls(self):
        for reach in (3, 5, 12, 1000, BOUND):
            answers = []
            for places in drawn_hulls(2000, reach):
                answers.append(astern(*flat(*places)))
                self.assertEqual(answers[-1], astern_by_distances(*places), places)
            for answer in (OVERLAP, A_IS, B_IS, EACH_IS):
                self.assertGreater(answers.count(answer), 10, (reach, answer))


class AsternAtTheBounds(Asking):
    def test_the_greatest_dots(self):
        self.told((1 - BOUND, 1 - BOUND, -BOUND, -BOUND), (BOUND, BOUND, 0, 0), A_IS)
        self.told((1 - BOUND, 1 - BOUND, -BOUND, -BOUND), (BOUND, BOUND, BOUND - 1, BOUND - 1), A_IS)
        self.told((BOUND, BOUND, BOUND - 1, BOUND), (BOUND, BOUND, -BOUND, -BOUND), OVERLAP)
        self.told((-BOUND, -BOUND, 1 - BOUND, 1 - BOUND), (BOUND, BOUND, BOUND - 1, BOUND - 1), EACH_IS)
        self.told((BOUND, BOUND, -BOUND, -BOUND), (BOUND, -BOUND, -BOUND, BOUND), OVERLAP)
        self.told((BOUND, BOUND, -BOUND, -BOUND), (-BOUND, -BOUND, BOUND, BOUND), OVERLAP)
        self.told((-BOUND, -BOUND, -BOUND, BOUND), (BOUND, BOUND, BOUND, -BOUND), OVERLAP)
        self.told((1 - BOUND, BOUND, -BOUND, BOUND), (1 - BOUND, -BOUND, BOUND, -BOUND), OVERLAP)

    def test_a_dot_of_one_is_not_lost(self):
        # Across from b's stern, at dots of -1, 0 and 1; the other place of a is far behind.
        b = (BOUND, BOUND - 1, 0, 0)
        at_the_stern = ((BOUND - 2, 1 - BOUND, A_IS), (BOUND - 1, -BOUND, OVERLAP), (2 - BOUND, BOUND - 1, OVERLAP))
        for x, y, answer in at_the_stern:
            self.told((x, y, -BOUND, -BOUND), b, answer)
            self.told((-BOUND, -BOUND, x, y), b, answer)

    def test_all_hulls_near_the_bounds(self):
        numbers = (-BOUND, 1 - BOUND, BOUND)
        places = [(x, y) for x in numbers for y in numbers]
        hulls = [(bow, stern) for bow in places for stern in places if bow != stern]
        for a in hulls:
            for b in hulls:
                self.assertEqual(astern(*flat(*a, *b)), astern_by_distances(*a, *b), (a, b))


if __name__ == "__main__":
    unittest.main()
