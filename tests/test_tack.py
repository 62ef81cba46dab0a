import unittest

from tests.exact import BOUND, drawn_tacks, flat, grid, tack_by_slope
from waterways.desk import tack

STARBOARD = [1]
PORT = [2]

# Eight directions of the compass and some between.
DIRECTIONS = [
    (1, 0), (0, 1), (-1, 0), (0, -1),
    (1, 1), (-1, 1), (-1, -1), (1, -1),
    (3, 1), (1, 3), (-2, 5), (-5, 2), (-7, -1), (-1, -4), (2, -3), (6, -1),
]


def headed(x, y, stern=(7, -4)):
    """The hull of this heading, its bow first."""
    return (stern[0] + x, stern[1] + y) + tuple(stern)


class Asking(unittest.TestCase):
    def told(self, hull, wind, answer):
        """The answer, whatever before is."""
        self.assertEqual(tack(*hull, *wind, 1), answer, (hull, wind))
        self.assertEqual(tack(*hull, *wind, -1), answer, (hull, wind))

    def as_before(self, hull, wind):
        self.assertEqual(tack(*hull, *wind, 1), STARBOARD, (hull, wind))
        self.assertEqual(tack(*hull, *wind, -1), PORT, (hull, wind))


class WindFromASide(Asking):
    def test_heading_north(self):
        # The wind points to where it blows: to the west is from the east.
        self.assertEqual(tack(0, 4, 0, 0, -1, 0, 1), [1])
        self.assertEqual(tack(0, 4, 0, 0, -1, 0, -1), [1])
        self.assertEqual(tack(0, 4, 0, 0, 1, 0, 1), [2])
        self.assertEqual(tack(0, 4, 0, 0, 1, 0, -1), [2])

    def test_heading_east(self):
        self.told((4, 0, 0, 0), (0, 1), STARBOARD)
        self.told((4, 0, 0, 0), (0, -1), PORT)

    def test_heading_south(self):
        self.told((0, 0, 0, 4), (1, 0), STARBOARD)
        self.told((0, 0, 0, 4), (-1, 0), PORT)

    def test_heading_west(self):
        self.told((0, 0, 4, 0), (0, -1), STARBOARD)
        self.told((0, 0, 4, 0), (0, 1), PORT)

    def test_slanting(self):
        self.told((3, 3, 1, 1), (-1, 1), STARBOARD)
        self.told((3, 3, 1, 1), (1, -1), PORT)
        self.told((3, 3, 1, 1), (0, -5), PORT)
        self.told((3, 3, 1, 1), (-5, 0), STARBOARD)
        self.told((1, 5, 2, 2), (-4, -3), STARBOARD)
        self.told((1, 5, 2, 2), (4, 3), PORT)

    def test_from_before_the_beam_and_from_behind_it(self):
        for along in (-9, -1, 0, 1, 9):
            self.told((0, 4, 0, 0), (-1, along), STARBOARD)
            self.told((0, 4, 0, 0), (1, along), PORT)

    def test_bow_and_stern_changed(self):
        self.told((2, 6, 1, 1), (-3, 1), STARBOARD)
        self.told((1, 1, 2, 6), (-3, 1), PORT)

    def test_the_wind_turned_round(self):
        self.told((2, 6, 1, 1), (3, -1), PORT)
        self.told((1, 1, 2, 6), (3, -1), STARBOARD)


class WindAlong(Asking):
    def test_from_ahead(self):
        self.assertEqual(tack(0, 4, 0, 0, 0, -1, 1), [1])
        self.assertEqual(tack(0, 4, 0, 0, 0, -1, -1), [2])
        self.as_before((3, 1, 1, 2), (-2, 1))
        self.as_before((3, 1, 1, 2), (-4, 2))

    def test_from_astern(self):
        self.assertEqual(tack(0, 4, 0, 0, 0, 1, 1), [1])
        self.assertEqual(tack(0, 4, 0, 0, 0, 1, -1), [2])
        self.as_before((3, 1, 1, 2), (2, -1))
        self.as_before((3, 1, 1, 2), (4, -2))

    def test_every_direction(self):
        for x, y in DIRECTIONS:
            for length in (1, 2, 9):
                for strength in (-20, -3, -1, 1, 3, 20):
                    self.as_before(headed(length * x, length * y), (strength * x, strength * y))

    def test_one_off_from_along(self):
        self.as_before((300, 200, 0, 0), (3, 2))
        self.told((300, 201, 0, 0), (3, 2), PORT)
        self.told((300, 199, 0, 0), (3, 2), STARBOARD)
        self.as_before((3, 2, 0, 0), (-300, -200))
        self.told((3, 2, 0, 0), (-300, -201), PORT)
        self.told((3, 2, 0, 0), (-300, -199), STARBOARD)


class Directions(Asking):
    def test_headings_and_winds_of_every_direction(self):
        for x, y in DIRECTIONS:
            hull = headed(2 * x, 2 * y)
            for along in (-30, -1, 0, 1, 30):
                for aside in (1, 2, 17):
                    # Its left hand is (-y, x): a wind that blows to the left comes from starboard.
                    self.told(hull, (along * x - aside * y, along * y + aside * x), STARBOARD)
                    self.told(hull, (along * x + aside * y, along * y - aside * x), PORT)

    def test_where_the_hull_lies_tells_nothing(self):
        for stern in ((0, 0), (500, -300), (3 - BOUND, BOUND - 3), (BOUND - 3, 3 - BOUND)):
            self.told(headed(2, 1, stern), (1, 1), STARBOARD)
            self.told(headed(2, 1, stern), (1, 0), PORT)
            self.as_before(headed(2, 1, stern), (2, 1))
            self.as_before(headed(2, 1, stern), (-2, -1))

    def test_great_winds_and_small_ones(self):
        hull = headed(5, 3)
        for u, v, answer in ((2, 1, PORT), (1, 1, STARBOARD), (-2, -1, STARBOARD), (-1, -1, PORT), (-1, 2, STARBOARD)):
            for strength in (1, 2, 1000, BOUND // 2 - 1, BOUND // 2):
                self.told(hull, (strength * u, strength * v), answer)
        for strength in (1, 2, 1000, BOUND // 5 - 1, BOUND // 5):
            self.as_before(hull, (strength * 5, strength * 3))
            self.as_before(hull, (strength * -5, strength * -3))

    def test_long_hulls_and_short_ones(self):
        for length in (1, 2, 1000, BOUND // 5 - 7):
            hull = headed(length * 5, length * 3)
            self.told(hull, (2, 1), PORT)
            self.told(hull, (-2, -1), STARBOARD)
            self.as_before(hull, (5, 3))
            self.as_before(hull, (-5, -3))


class CrossOfOne(Asking):
    # Heading and wind, with a cross of 1.
    PAIRS = [
        ((1, 0), (0, 1)), ((0, 1), (-1, 0)), ((2, 1), (1, 1)), ((5, 3), (3, 2)), ((5, 3), (-2, -1)),
        ((-8, 5), (3, -2)), ((-3, -7), (1, 2)), ((4, -9), (1, -2)), ((1, 0), (900, 1)), ((1, 1), (-500, -499)),
    ]

    def test_at_1(self):
        for heading, wind in self.PAIRS:
            self.assertEqual(heading[0] * wind[1] - heading[1] * wind[0], 1)
            self.told(headed(*heading), wind, STARBOARD)

    def test_at_minus_1(self):
        for heading, wind in self.PAIRS:
            self.told(headed(*wind), heading, PORT)
            self.told(headed(*heading), (-wind[0], -wind[1]), PORT)
            self.told(headed(-heading[0], -heading[1]), wind, PORT)

    def test_beside_it_at_0(self):
        for heading, wind in self.PAIRS:
            self.as_before(headed(*heading), heading)
            self.as_before(headed(*wind), (-wind[0], -wind[1]))


class Agrees(unittest.TestCase):
    def test_all_small_hulls_and_winds(self):
        places = grid(1) + [(2, -1), (-2, 3)]
        winds = [wind for wind in grid(3) if wind != (0, 0)]
        for bow in places:
            for stern in places:
                if bow == stern:
                    continue
                for wind in winds:
                    for before in (1, -1):
                        told = tack(*flat(bow, stern, wind), before)
                        self.assertEqual(told, tack_by_slope(bow, stern, wind, before), (bow, stern, wind, before))

    def test_drawn_hulls_and_winds(self):
        for reach in (2, 5, 12, 1000, BOUND):
            answers = []
            for bow, stern, wind in drawn_tacks(2000, reach):
                for before in (1, -1):
                    answers.append(tack(*flat(bow, stern, wind), before))
                    self.assertEqual(answers[-1], tack_by_slope(bow, stern, wind, before), (bow, stern, wind, before))
            for answer in (STARBOARD, PORT):
                self.assertGreater(answers.count(answer), 500, (reach, answer))


class TackAtTheBounds(Asking):
    def test_the_greatest_crosses(self):
        self.told((BOUND, BOUND, -BOUND, -BOUND), (-BOUND, BOUND), STARBOARD)
        self.told((BOUND, BOUND, -BOUND, -BOUND), (BOUND, -BOUND), PORT)
        self.told((-BOUND, BOUND, BOUND, -BOUND), (-BOUND, -BOUND), STARBOARD)
        self.told((-BOUND, BOUND, BOUND, -BOUND), (BOUND, BOUND), PORT)
        self.told((BOUND, 0, -BOUND, 0), (0, BOUND), STARBOARD)
        self.told((0, BOUND, 0, -BOUND), (BOUND, 0), PORT)

    def test_the_greatest_winds_along(self):
        self.as_before((BOUND, BOUND, -BOUND, -BOUND), (BOUND, BOUND))
        self.as_before((BOUND, BOUND, -BOUND, -BOUND), (-BOUND, -BOUND))
        self.as_before((-BOUND, BOUND, BOUND, -BOUND), (BOUND, -BOUND))
        self.as_before((BOUND, -BOUND, -BOUND, -BOUND), (BOUND, 0))
        self.as_before((BOUND, -BOUND, BOUND, BOUND), (0, BOUND))

    def test_one_off_from_the_greatest_winds_along(self):
        self.told((BOUND, BOUND, -BOUND, -BOUND), (BOUND - 1, BOUND), STARBOARD)
        self.told((BOUND, BOUND, -BOUND, -BOUND), (BOUND, BOUND - 1), PORT)
        self.told((BOUND, BOUND, -BOUND, 1 - BOUND), (BOUND, BOUND), STARBOARD)
        self.told((BOUND, BOUND, 1 - BOUND, -BOUND), (BOUND, BOUND), PORT)

    def test_a_cross_of_one_is_not_lost(self):
        # The heading (2097152, 2097149) and a wind of (699051, 699050) have a cross of 1.
        hull = (BOUND, BOUND - 3, -BOUND, -BOUND)
        self.told(hull, (699051, 699050), STARBOARD)
        self.told(hull, (-699051, -699050), PORT)
        self.told((-BOUND, -BOUND, BOUND, BOUND - 3), (699051, 699050), PORT)
        # A heading of (1048576, 1048575): crosses of 1 and -1 with the one just shorter than itself.
        hull = (BOUND, BOUND, 0, 1)
        self.told(hull, (1 - BOUND, 2 - BOUND), STARBOARD)
        self.told(hull, (BOUND - 1, BOUND - 2), PORT)
        self.as_before(hull, (BOUND, BOUND - 1))

    def test_all_hulls_and_winds_near_the_bounds(self):
        numbers = (-BOUND, 1 - BOUND, 0, BOUND)
        places = [(x, y) for x in numbers for y in numbers]
        for bow in places:
            for stern in places:
                if bow == stern:
                    continue
                for wind in places:
                    if wind == (0, 0):
                        continue
                    for before in (1, -1):
                        told = tack(*flat(bow, stern, wind), before)
                        self.assertEqual(told, tack_by_slope(bow, stern, wind, before), (bow, stern, wind, before))


if __name__ == "__main__":
    unittest.main()
