import unittest

from tests.exact import BOUND, drawn_hulls, flat, grid, places_listed, touch_by_meeting
from waterways.desk import touch

TOUCH = [1]
APART = [0]


class Touching(unittest.TestCase):
    def told(self, a, b, answer):
        """Asks with each bow and its stern as they are and changed, and with a and b as they are and changed."""
        for one in (a, a[2:] + a[:2]):
            for other in (b, b[2:] + b[:2]):
                self.assertEqual(touch(*one, *other), answer, (one, other))
                self.assertEqual(touch(*other, *one), answer, (other, one))


class Crossing(Touching):
    def test_at_a_whole_place(self):
        self.told((0, 0, 10, 0), (5, -3, 5, 3), TOUCH)
        self.told((-2, -2, 2, 2), (-2, 2, 2, -2), TOUCH)
        self.told((0, 0, 4, 2), (2, 0, 2, 5), TOUCH)
        self.told((0, 0, 4, 2), (1, 1, 7, 1), TOUCH)
        self.told((-3, 1, 6, 4), (-1, 4, 1, 0), TOUCH)

    def test_at_a_place_that_is_not_whole(self):
        self.told((0, 0, 1, 1), (0, 1, 1, 0), TOUCH)
        self.told((0, 0, 3, 1), (1, 1, 2, 0), TOUCH)
        self.told((0, 0, 7, 0), (3, -1, 4, 1), TOUCH)
        self.told((0, 0, 0, 7), (-1, 3, 2, 4), TOUCH)
        self.told((0, 0, 5, 3), (2, 2, 3, 1), TOUCH)
        self.told((0, 0, 5, 3), (2, 1, 1, 2), TOUCH)

    def test_near_an_end(self):
        # Crossed at 999 of 1000 parts, at a thousandth, and a thousandth of the other.
        self.told((0, 0, 1000, 0), (999, -1, 999, 1), TOUCH)
        self.told((0, 0, 1000, 0), (1, -1, 1, 1), TOUCH)
        self.told((0, 0, 1000, 0), (500, -1, 500, 999), TOUCH)


class AnEndInside(Touching):
    def test_an_end_inside_the_other(self):
        for end in ((5, 4), (5, -4), (1, 7), (9, -1), (20, 3), (-20, 3)):
            self.told((0, 0, 10, 0), (5, 0) + end, TOUCH)
        for end in ((1, 4), (-9, 4), (8, 9), (-3, -1)):
            self.told((0, 0, 0, 10), (0, 4) + end, TOUCH)
        for end in ((4, 3), (4, 1), (0, 2), (5, 9), (-3, -9)):
            self.told((0, 0, 8, 4), (4, 2) + end, TOUCH)

    def test_just_short_of_the_other(self):
        for end in ((5, 4), (1, 7), (20, 3)):
            self.told((0, 0, 10, 0), (5, 1) + end, APART)
        for end in ((5, -4), (9, -3), (-20, -3)):
            self.told((0, 0, 10, 0), (5, -1) + end, APART)
        self.told((0, 0, 8, 4), (4, 3, 5, 9), APART)
        self.told((0, 0, 8, 4), (4, 1, 5, -9), APART)


class AnEndAtAnEnd(unittest.TestCase):
    # Each with both straights level, upright or slanting, and one on the other's line or not.
    OTHERS = [(3, 0), (-3, 0), (0, 2), (0, -2), (1, 1), (-2, 1), (-1, -3), (4, -1)]

    def test_all_four_pairs_of_ends(self):
        for place in ((0, 0), (7, -4)):
            for x, y in self.OTHERS:
                for u, v in self.OTHERS:
                    one = (place[0] + x, place[1] + y)
                    other = (place[0] + u, place[1] + v)
                    self.assertEqual(touch(*place, *one, *place, *other), TOUCH, "bow and bow")
                    self.assertEqual(touch(*place, *one, *other, *place), TOUCH, "bow and stern")
                    self.assertEqual(touch(*one, *place, *place, *other), TOUCH, "stern and bow")
                    self.assertEqual(touch(*one, *place, *other, *place), TOUCH, "stern and stern")


class OnOneLine(Touching):
    DIRECTIONS = [(1, 0), (0, 1), (1, 1), (1, -1), (2, 1), (-1, 3), (-3, -2)]

    def told_along(self, a, b, answer):
        """Asks of hulls from the one to the other count of steps, along lines of every direction."""
        for x, y in self.DIRECTIONS:
            one = (4 + a[0] * x, a[0] * y - 1, 4 + a[1] * x, a[1] * y - 1)
            other = (4 + b[0] * x, b[0] * y - 1, 4 + b[1] * x, b[1] * y - 1)
            self.told(one, other, answer)

    def test_apart(self):
        self.told_along((0, 3), (4, 7), APART)
        self.told_along((0, 3), (100, 101), APART)
        self.told_along((0, 1), (-9, -1), APART)

    def test_one_end_in_common(self):
        self.told_along((0, 3), (3, 7), TOUCH)
        self.told_along((0, 3), (-1, 0), TOUCH)

    def test_one_in_part_over_the_other(self):
        self.told_along((0, 3), (2, 7), TOUCH)
        self.told_along((0, 3), (-5, 1), TOUCH)

    def test_one_within_the_other(self):
        self.told_along((0, 7), (2, 4), TOUCH)
        self.told_along((0, 7), (0, 4), TOUCH)
        self.told_along((0, 7), (4, 7), TOUCH)

    def test_the_same_hull_twice_and_with_bow_and_stern_changed(self):
        self.told_along((0, 3), (0, 3), TOUCH)
        self.told_along((0, 3), (3, 0), TOUCH)


class OnParallelLines(Touching):
    def test_level(self):
        self.told((0, 0, 10, 0), (0, 1, 10, 1), APART)
        self.told((0, 0, 10, 0), (3, -1, 4, -1), APART)
        self.told((0, 0, 10, 0), (12, 1, 15, 1), APART)

    def test_upright(self):
        self.told((0, 0, 0, 10), (1, 0, 1, 10), APART)
        self.told((0, 0, 0, 10), (-1, 3, -1, 4), APART)
        self.told((0, 0, 0, 10), (1, 12, 1, 15), APART)

    def test_slanting(self):
        self.told((0, 0, 10, 10), (1, 0, 11, 10), APART)
        self.told((0, 0, 10, 10), (4, 5, 6, 7), APART)
        self.told((0, 0, 6, 3), (2, 2, 4, 3), APART)
        self.told((0, 0, 6, 3), (1, 0, 3, 1), APART)


class MeetingOnlyBeyond(unittest.TestCase):
    def test_beyond_bow_or_stern_from_each_side(self):
        # a lies on this level line from 0 to 10; b crosses it, or ends on it, west or east of that.
        for x in (-1, -7, 11, 30):
            for b in ((x, -3, x, 3), (x, 3, x, -3), (x, 0, x, 3), (x, -3, x, 0), (x - 1, -1, x + 1, 1)):
                self.assertEqual(touch(0, 0, 10, 0, *b), APART, b)
                self.assertEqual(touch(10, 0, 0, 0, *b), APART, b)
                self.assertEqual(touch(*b, 0, 0, 10, 0), APART, b)
                self.assertEqual(touch(*b, 10, 0, 0, 0), APART, b)

    def test_slanting_beyond_bow_or_stern_from_each_side(self):
        a = (0, 0, 6, 4)
        for place in ((-3, -2), (9, 6)):
            for x, y in ((-1, 1), (1, -1), (1, 2), (-1, -2), (4, 0), (0, 4), (-4, 0), (0, -4)):
                b = (place[0] + x, place[1] + y, place[0] - x, place[1] - y)
                half = place + b[:2]
                for other in (b, half):
                    self.assertEqual(touch(*a, *other), APART, other)
                    self.assertEqual(touch(*other, *a), APART, other)
                    self.assertEqual(touch(*a[2:], *a[:2], *other), APART, other)

    def test_short_of_the_line_on_each_side(self):
        for x in (0, 5, 10):
            for y in (1, 2, -1, -2):
                for end in ((x, 3 * y), (x + 4, 9 * y), (x - 6, 2 * y)):
                    self.assertEqual(touch(0, 0, 10, 0, x, y, *end), APART)
                    self.assertEqual(touch(0, 0, 10, 0, *end, x, y), APART)
                    self.assertEqual(touch(x, y, *end, 10, 0, 0, 0), APART)


class BoxesOverlap(Touching):
    def test_without_a_place_in_common(self):
        self.told((0, 0, 10, 10), (6, 1, 9, 4), APART)
        self.told((0, 0, 10, 10), (1, 6, 4, 9), APART)
        self.told((0, 0, 10, 10), (7, 1, 9, 8), APART)
        self.told((0, 0, 10, 10), (5, 0, 10, 9), APART)
        self.told((0, 10, 10, 0), (0, 0, 4, 5), APART)
        self.told((0, 10, 10, 0), (6, 5, 10, 10), APART)

    def test_one_box_within_the_other(self):
        self.told((-10, -10, 10, 10), (3, -3, 4, -5), APART)
        self.told((-10, -10, 10, 10), (-3, 3, -4, 5), APART)

    def test_one_straddles_the_line_of_the_other_alone(self):
        self.told((0, 0, 4, 4), (2, 4, 6, 5), APART)
        self.told((0, 0, 10, 2), (12, 1, 9, 10), APART)
        self.told((0, 0, 10, 10), (9, 1, 6, 4), APART)
        self.told((0, 0, 3, 9), (1, 9, 2, 7), APART)


class Agrees(unittest.TestCase):
    def test_all_small_hulls_with_their_places_listed(self):
        # Two straights of this grid that cross do so at fractions of their ways with denominators of 32 at most.
        places = grid(2)
        hulls = [(bow, stern) for bow in places for stern in places if bow < stern]
        listed = [places_listed(bow, stern, 32) for bow, stern in hulls]
        answers = []
        for a, of_a in zip(hulls, listed):
            for b, of_b in zip(hulls, listed):
                answers.append(touch(*flat(*a, *b)))
                self.assertEqual(answers[-1], APART if of_a.isdisjoint(of_b) else TOUCH, (a, b))
        self.assertGreater(answers.count(TOUCH), 10000)
        self.assertGreater(answers.count(APART), 10000)

    def test_small_hulls_with_bow_and_stern_either_way(self):
        places = grid(1)
        hulls = [(bow, stern) for bow in places for stern in places if bow != stern]
        for a in hulls:
            for b in hulls:
                self.assertEqual(touch(*flat(*a, *b)), touch_by_meeting(*a, *b), (a, b))

    def test_drawn_hulls_with_fractions(self):
        for reach in (3, 5, 12, 1000, BOUND):
            answers = []
            for places in drawn_hulls(1500, reach):
                answers.append(touch(*flat(*places)))
                self.assertEqual(answers[-1], touch_by_meeting(*places), places)
            self.assertGreater(answers.count(TOUCH), 200, reach)
            self.assertGreater(answers.count(APART), 200, reach)


class TouchAtTheBounds(Touching):
    DIAGONAL = (-BOUND, -BOUND, BOUND, BOUND)
    # The whole places on this one are its ends alone.
    STEEP = (-BOUND, 1 - BOUND, BOUND, BOUND)

    def test_the_greatest_crosses(self):
        self.told(self.DIAGONAL, (-BOUND, BOUND, BOUND, -BOUND), TOUCH)
        self.told(self.DIAGONAL, (-BOUND, BOUND, BOUND, BOUND), TOUCH)
        self.told(self.DIAGONAL, (-BOUND, BOUND, BOUND - 1, BOUND), APART)
        self.told(self.DIAGONAL, (-BOUND, BOUND, 0, 0), TOUCH)
        self.told(self.DIAGONAL, (-BOUND, BOUND, 0, 1), APART)
        self.told((-BOUND, -BOUND, -BOUND, BOUND), (BOUND, -BOUND, BOUND, BOUND), APART)
        self.told((-BOUND, -BOUND, BOUND, -BOUND), (-BOUND, BOUND, BOUND, BOUND), APART)

    def test_missed_by_very_little(self):
        # The places beside the straight are off it by a cross of 1.
        self.told(self.STEEP, (1 - BOUND, 2 - BOUND, -BOUND, BOUND), APART)
        self.told(self.STEEP, (BOUND - 1, BOUND - 1, BOUND, -BOUND), APART)
        self.told(self.STEEP, (1 - BOUND, 2 - BOUND, 1 - BOUND, 1 - BOUND), TOUCH)
        self.told(self.STEEP, (BOUND - 1, BOUND - 1, BOUND - 1, BOUND), TOUCH)
        self.told((0, 0, BOUND, BOUND - 1), (1, 1, BOUND, BOUND), APART)
        self.told((0, 0, BOUND, BOUND - 1), (0, -1, BOUND - 1, BOUND - 2), APART)
        self.told((0, 0, BOUND, BOUND - 1), (1, 1, BOUND - 1, BOUND - 2), TOUCH)

    def test_missed_by_very_little_at_an_end(self):
        # The other goes over the level at BOUND - 1, then half a step, then a little more than half a step from it.
        for x, answer in ((BOUND, TOUCH), (BOUND - 1, TOUCH), (BOUND - 2, APART)):
            self.told((-BOUND, 0, x, 0), (BOUND, BOUND, BOUND - 2, -BOUND), answer)
        for x, answer in ((BOUND, TOUCH), (BOUND - 1, APART)):
            self.told((-BOUND, 0, x, 0), (BOUND, BOUND, BOUND - 1, -BOUND), answer)
            self.told((-BOUND, 0, x, 0), (BOUND, BOUND - 1, BOUND - 1, -BOUND), answer)

    def test_on_one_line_a_step_apart(self):
        self.told((-BOUND, -BOUND, 0, 0), (1, 1, BOUND, BOUND), APART)
        self.told((-BOUND, -BOUND, 0, 0), (0, 0, BOUND, BOUND), TOUCH)
        self.told((-BOUND, -BOUND, 1, 1), (0, 0, BOUND, BOUND), TOUCH)
        self.told((-BOUND, 5, -1, 5), (0, 5, BOUND, 5), APART)
        self.told((5, -BOUND, 5, 0), (5, 0, 5, BOUND), TOUCH)

    def test_all_hulls_near_the_bounds(self):
        numbers = (-BOUND, 1 - BOUND, BOUND - 1, BOUND)
        places = [(x, y) for x in numbers for y in numbers]
        hulls = [(bow, stern) for bow in places for stern in places if bow < stern]
        for a in hulls:
            for b in hulls:
                self.assertEqual(touch(*flat(*a, *b)), touch_by_meeting(*a, *b), (a, b))


if __name__ == "__main__":
    unittest.main()
