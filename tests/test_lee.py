import unittest

from tests.exact import BOUND, drawn_lees, flat, grid, lee_by_distances
from waterways.desk import lee

NEITHER = [0]
B_IS = [1]
A_IS = [2]

# Eight directions of the compass and some between.
DIRECTIONS = [
    (1, 0), (0, 1), (-1, 0), (0, -1),
    (1, 1), (-1, 1), (-1, -1), (1, -1),
    (3, 1), (1, 3), (-2, 5), (-5, 2), (-7, -1), (-1, -4), (2, -3), (6, -1),
]


def turned_end_for_end(hull):
    return hull[2:] + hull[:2]


class Asking(unittest.TestCase):
    def told(self, a, b, wind, answer):
        """Asks with a and b as they are and changed, with the wind turned round, and with bow and stern changed."""
        other_answer = {0: NEITHER, 1: A_IS, 2: B_IS}[answer[0]]
        other_wind = (-wind[0], -wind[1])
        for one in (a, turned_end_for_end(a)):
            for other in (b, turned_end_for_end(b)):
                self.assertEqual(lee(*one, *other, *wind), answer, (one, other, wind))
                self.assertEqual(lee(*other, *one, *wind), other_answer, (other, one, wind))
                self.assertEqual(lee(*one, *other, *other_wind), other_answer, (one, other, other_wind))


class ToLeeward(Asking):
    def test_wind_to_the_south(self):
        # The wind points to where it blows: who is farther south is to leeward.
        self.assertEqual(lee(0, 4, 0, 0, 0, -1, 0, -5, 0, -1), [1])
        self.assertEqual(lee(0, -1, 0, -5, 0, 4, 0, 0, 0, -1), [2])
        self.assertEqual(lee(0, 4, 0, 0, 5, 4, 5, 0, 0, -1), [0])

    def test_wind_to_the_north_east_and_west(self):
        self.assertEqual(lee(0, 4, 0, 0, 0, -1, 0, -5, 0, 1), [2])
        self.assertEqual(lee(4, 0, 0, 0, -1, 0, -5, 0, 1, 0), [2])
        self.assertEqual(lee(4, 0, 0, 0, -1, 0, -5, 0, -1, 0), [1])

    def test_slanting(self):
        self.told((0, 0, 2, 2), (3, 3, 5, 5), (1, 1), B_IS)
        self.told((0, 0, 2, 2), (3, 3, 5, 5), (5, -4), B_IS)
        self.told((0, 0, 2, 2), (3, 3, 5, 5), (4, -5), A_IS)
        self.told((1, 7, 3, 1), (4, 2, 8, 4), (1, 3), B_IS)
        self.told((1, 7, 3, 1), (4, 2, 8, 4), (1, 4), NEITHER)
        self.told((1, 7, 3, 1), (4, 2, 8, 4), (1, 5), A_IS)

    def test_far_aside(self):
        self.told((0, 4, 0, 0), (90000, 3, 90000, -1), (0, -1), B_IS)
        self.told((0, 4, 0, 0), (-90000, 5, -90000, 1), (0, -1), A_IS)

    def test_the_middles_tell_it_not_the_ends(self):
        # A long hull reaches beyond a short one either way.
        self.told((0, 100, 0, -98), (3, 1, 3, -1), (0, -1), B_IS)
        self.told((0, 100, 0, -100), (3, 2, 3, 0), (0, -1), A_IS)
        self.told((-50, 7, 52, -3), (0, 0, 1, 0), (1, 0), A_IS)

    def test_hulls_that_cross(self):
        self.told((0, 4, 0, 0), (2, 1, -2, 1), (0, -1), B_IS)
        self.told((0, 4, 0, 0), (2, 3, -2, 3), (0, -1), A_IS)
        self.told((0, 4, 0, 0), (3, 2, -2, 2), (1, 0), B_IS)


class Neither(Asking):
    def test_middles_level_across_the_wind(self):
        self.told((0, 4, 0, 0), (9, 3, 9, 1), (0, -1), NEITHER)
        self.told((0, 4, 0, 0), (9, 2, 5, 2), (0, -1), NEITHER)
        self.told((4, 0, 0, 0), (3, 9, 1, 5), (1, 0), NEITHER)
        self.told((2, 2, 0, 0), (6, -2, 4, -4), (1, 1), NEITHER)
        self.told((2, 2, 0, 0), (2, 8, 0, 0), (3, 0), NEITHER)

    def test_the_middles_one_place(self):
        for wind in DIRECTIONS:
            self.told((0, 4, 0, 0), (2, 2, -2, 2), wind, NEITHER)
            self.told((3, 3, 0, 0), (3, 0, 0, 3), wind, NEITHER)
            self.told((1, 0, 0, 0), (7, -9, -6, 9), wind, NEITHER)
            self.told((0, 9, 0, 0), (0, 5, 0, 4), wind, NEITHER)

    def test_the_same_hull_twice(self):
        for wind in DIRECTIONS:
            for hull in ((0, 4, 0, 0), (5, -1, 2, 7), (1, 0, 0, 0), (BOUND, BOUND, -BOUND, 1 - BOUND)):
                self.assertEqual(lee(*hull, *hull, *wind), NEITHER, (hull, wind))

    def test_the_same_hull_with_bow_and_stern_changed(self):
        for wind in DIRECTIONS:
            for hull in ((0, 4, 0, 0), (5, -1, 2, 7), (1, 0, 0, 0), (BOUND, BOUND, -BOUND, 1 - BOUND)):
                other = turned_end_for_end(hull)
                self.assertEqual(lee(*hull, *other, *wind), NEITHER, (hull, wind))
                self.assertEqual(lee(*other, *hull, *wind), NEITHER, (hull, wind))


class HalfAPlace(Asking):
    def test_one_middle_not_whole(self):
        # The middle of b is half a place to the east, then to the north, of that of a.
        self.told((0, 1, 0, -1), (1, 0, 0, 0), (1, 0), B_IS)
        self.told((1, 0, -1, 0), (0, 1, 0, 0), (0, 1), B_IS)
        self.told((0, 1, 0, -1), (0, 0, -1, 0), (1, 0), A_IS)
        self.told((1, 0, -1, 0), (0, 0, 0, -1), (0, 1), A_IS)
        self.told((7, 1, 7, -1), (9, 3, 6, 8), (1, 0), B_IS)
        self.told((8, 1, 8, -1), (9, 3, 6, 8), (1, 0), A_IS)

    def test_both_middles_not_whole(self):
        self.told((1, 0, 0, 0), (2, 0, 1, 0), (1, 0), B_IS)
        self.told((1, 0, 0, 0), (1, 5, 0, 8), (1, 0), NEITHER)
        self.told((1, 0, 0, 0), (3, 5, -2, 8), (1, 0), NEITHER)
        self.told((-1, 0, 0, 0), (1, 0, 0, 0), (1, 0), B_IS)

    def test_below_0(self):
        self.told((-3, 0, -4, 0), (-3, 2, -3, 1), (1, 0), B_IS)
        self.told((-3, 0, -4, 0), (-4, 2, -4, 1), (1, 0), A_IS)
        self.told((-3, 0, -4, 0), (-1, 2, -6, 1), (1, 0), NEITHER)

    def test_half_a_place_aslant(self):
        # The middle of b is (1/2, 1/2) from that of a.
        a = (1, 2, -1, -2)
        b = (1, 1, 0, 0)
        self.told(a, b, (1, -1), NEITHER)
        self.told(a, b, (2, -1), B_IS)
        self.told(a, b, (1, -2), A_IS)
        self.told(a, b, (1000, -999), B_IS)
        self.told(a, b, (999, -1000), A_IS)

    def test_a_half_against_a_whole(self):
        # The middle of b is (1/2, -1) from that of a.
        a = (3, 2, -3, -2)
        b = (1, -2, 0, 0)
        self.told(a, b, (2, 1), NEITHER)
        self.told(a, b, (3, 1), B_IS)
        self.told(a, b, (1, 1), A_IS)
        self.told(a, b, (201, 100), B_IS)
        self.told(a, b, (199, 100), A_IS)


class Winds(Asking):
    def around(self, direction, down, aside, x, y):
        """A hull whose middle is this many steps down the wind from (7, -4), and this many aside."""
        middle = (7 + down * direction[0] - aside * direction[1], -4 + down * direction[1] + aside * direction[0])
        return (middle[0] + x, middle[1] + y, middle[0] - x, middle[1] - y)

    def test_every_direction(self):
        for wind in DIRECTIONS:
            for x, y in ((1, 0), (0, 3), (2, -5)):
                a = self.around(wind, 0, 0, x, y)
                for aside in (-40, -1, 0, 1, 40):
                    for down, answer in ((-9, A_IS), (-1, A_IS), (0, NEITHER), (1, B_IS), (9, B_IS)):
                        for p, q in ((1, 0), (0, -4), (3, 3)):
                            self.told(a, self.around(wind, down, aside, p, q), wind, answer)

    def test_great_winds_and_small_ones(self):
        for strength in (1, 2, 1000, BOUND // 3 - 1, BOUND // 3):
            wind = (3 * strength, -2 * strength)
            self.told((4, 1, 2, 1), (6, 4, 4, 4), wind, NEITHER)
            self.told((4, 1, 2, 1), (6, 4, 5, 4), wind, B_IS)
            self.told((4, 1, 2, 1), (6, 4, 4, 5), wind, A_IS)

    def test_headings_tell_nothing(self):
        for x, y in DIRECTIONS:
            for p, q in DIRECTIONS:
                self.told((x, y, -x, -y), (1 + p, q, 1 - p, -q), (1, 0), B_IS)
                self.told((x, y, -x, -y), (1 + p, q, 1 - p, -q), (0, 1), NEITHER)
                self.told((x, y, -x, -y), (1 + p, q, 1 - p, -q), (-1, 1), A_IS)


class Agrees(unittest.TestCase):
    def test_all_small_hulls(self):
        places = grid(1) + [(2, -1)]
        hulls = [(bow, stern) for bow in places for stern in places if bow != stern]
        for wind in ((1, 0), (0, -1), (-1, 1), (2, 1), (-3, -1)):
            for a in hulls:
                for b in hulls:
                    self.assertEqual(lee(*flat(*a, *b, wind)), lee_by_distances(*a, *b, wind), (a, b, wind))

    def test_all_small_winds(self):
        hulls = [((0, 0), (1, 0)), ((0, 0), (0, 1)), ((1, 1), (0, 0)), ((2, 0), (0, 2)), ((-1, 3), (2, -2))]
        for wind in grid(4):
            if wind == (0, 0):
                continue
            for a in hulls:
                for b in hulls:
                    self.assertEqual(lee(*flat(*a, *b, wind)), lee_by_distances(*a, *b, wind), (a, b, wind))

    def test_drawn_hulls_and_winds(self):
        for reach in (2, 5, 12, 1000, BOUND):
            answers = []
            for row in drawn_lees(2000, reach):
                answers.append(lee(*flat(*row)))
                self.assertEqual(answers[-1], lee_by_distances(*row), row)
            for answer in (A_IS, B_IS):
                self.assertGreater(answers.count(answer), 500, (reach, answer))


class LeeAtTheBounds(Asking):
    def test_the_greatest_dots(self):
        low = (-BOUND, -BOUND, 1 - BOUND, -BOUND)
        high = (BOUND, BOUND, BOUND - 1, BOUND)
        self.told(low, high, (BOUND, BOUND), B_IS)
        self.told(low, high, (1, 1), B_IS)
        self.told(low, high, (BOUND, -BOUND), A_IS)
        self.told(low, high, (BOUND, 1 - BOUND), B_IS)
        self.told((-BOUND, BOUND, -BOUND, BOUND - 1), (BOUND, -BOUND, BOUND, 1 - BOUND), (BOUND, -BOUND), B_IS)

    def test_the_greatest_level_middles(self):
        low = (-BOUND, -BOUND, 1 - BOUND, 1 - BOUND)
        high = (BOUND, BOUND, BOUND - 1, BOUND - 1)
        self.told(low, high, (BOUND, -BOUND), NEITHER)
        self.told(low, high, (BOUND, 1 - BOUND), B_IS)
        self.told(low, high, (BOUND - 1, -BOUND), A_IS)
        self.told((BOUND, BOUND, -BOUND, -BOUND), (BOUND, -BOUND, -BOUND, BOUND), (BOUND, BOUND - 1), NEITHER)

    def test_half_a_place_is_not_lost(self):
        a = (BOUND, BOUND, -BOUND, -BOUND)
        self.told(a, (BOUND, -BOUND, 1 - BOUND, BOUND), (BOUND, BOUND), B_IS)
        self.told(a, (BOUND - 1, -BOUND, -BOUND, BOUND), (BOUND, BOUND), A_IS)
        self.told(a, (BOUND, -BOUND, 1 - BOUND, BOUND - 1), (BOUND, BOUND), NEITHER)
        self.told(a, (BOUND, -BOUND, 1 - BOUND, BOUND - 1), (BOUND, BOUND - 1), B_IS)
        self.told((BOUND, BOUND, BOUND, BOUND - 2), (BOUND, BOUND, BOUND, BOUND - 1), (0, 1), B_IS)
        self.told((-BOUND, 3, 1 - BOUND, 4), (-BOUND, 9, 2 - BOUND, -2), (1, 0), B_IS)

    def test_a_dot_of_one_is_not_lost(self):
        # Bow and stern of b together are, less those of a, (4194301, -4194297).
        a = (-BOUND, BOUND, 2 - BOUND, BOUND - 6)
        b = (BOUND, -BOUND, BOUND - 1, 1 - BOUND)
        self.told(a, b, (-1048574, -1048575), B_IS)
        self.told(a, b, (1048574, 1048575), A_IS)
        # Here they are (1048576, 1048575).
        a = (0, 1, 1, 0)
        b = (BOUND, BOUND, 1, 0)
        self.told(a, b, (BOUND - 1, 1 - BOUND), B_IS)
        self.told(a, b, (1 - BOUND, BOUND - 1), A_IS)
        self.told(a, b, (BOUND - 1, -BOUND), NEITHER)
        self.told(a, b, (2 - BOUND, BOUND - 1), B_IS)
        self.told(a, b, (BOUND - 2, 1 - BOUND), A_IS)

    def test_all_hulls_near_the_bounds(self):
        places = [(-BOUND, -BOUND), (-BOUND, BOUND), (1 - BOUND, 0), (BOUND, BOUND - 1), (0, 1)]
        hulls = [(bow, stern) for bow in places for stern in places if bow != stern]
        winds = ((BOUND, BOUND), (-BOUND, BOUND), (BOUND, 1 - BOUND), (0, -BOUND), (1, 0), (1 - BOUND, -1))
        for wind in winds:
            for a in hulls:
                for b in hulls:
                    self.assertEqual(lee(*flat(*a, *b, wind)), lee_by_distances(*a, *b, wind), (a, b, wind))


if __name__ == "__main__":
    unittest.main()
