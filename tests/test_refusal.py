import unittest

from tests.exact import (
    BOUND, HIGHEST, LOWEST, REFUSAL, astern_by_distances, lee_by_distances, near_by_parabola, nearer_by_parabola,
    over_by_meeting, tack_by_slope, touch_by_meeting,
)
from waterways.desk import astern, lee, near, nearer, over, side, tack, touch

OUTSIDE = (BOUND + 1, -BOUND - 1, LOWEST, HIGHEST, LOWEST + 1, HIGHEST - 1)
LINE = (0, 0, 10, 0)

# Ways of every sort, so that no answer is found before all places are looked at.
WAYS = [
    (5, -1, 5, 1),  # goes over
    (5, 1, 5, -1),  # from the left to the right
    (5, 1, 5, 2),  # on the left
    (5, -1, 5, -2),  # on the right
    (5, 0, 6, 0),  # on the line
    (20, -1, 20, 1),  # meets the line beyond q
    (5, 3, 5, 3),  # one place
]

# Places of every sort for near, and lines that it takes.
PLACES = [(5, 1), (5, 0), (0, 0), (10, 0), (-3, 4), (13, -4), (0, 7), (10, 7), (-3, 0)]
LINES = [LINE, (0, 10, 0, 0), (0, 0, 2, 1), (0, 0, 0, 0)]

# Two hulls each, of every answer of touch and astern.
HULLS = [
    (0, 4, 0, 0, 2, 2, -2, 2),  # they cross
    (0, 4, 0, 0, 0, 4, 0, 0),  # the same hull twice
    (0, 4, 0, 0, 0, 9, 0, 4),  # on one line, with an end in common
    (0, 4, 0, 0, 0, 9, 0, 5),  # on one line, a astern
    (0, 9, 0, 5, 0, 4, 0, 0),  # on one line, b astern
    (5, 0, 1, 0, -5, 2, -1, 3),  # each astern of the other
    (3, 1, 1, 2, 5, 3, 2, 4),  # side by side
]

# A hull and a wind each: from starboard, from port, from ahead, from astern, and aslant.
TACKS = [
    (0, 4, 0, 0, -1, 0),
    (0, 4, 0, 0, 1, 0),
    (0, 4, 0, 0, 0, -2),
    (0, 4, 0, 0, 0, 3),
    (3, 1, 1, 2, 5, -7),
    (3, 1, 1, 2, -2, 1),
]
WINDS = [(1, 0), (0, -1), (2, -3), (-1, -1)]
OTHER_BEFORES = (0, 2, -2, 3, -3, BOUND, -BOUND, BOUND + 1, -BOUND - 1, LOWEST, HIGHEST)


def in_places(numbers):
    return [tuple(numbers[k:k + 2]) for k in range(0, len(numbers), 2)]


def with_number(numbers, index, number):
    changed = list(numbers)
    changed[index] = number
    return changed


class RefusedNumbers(unittest.TestCase):
    def test_side_refuses_each_number_beyond_the_bounds(self):
        for place in ((5, 1), (5, 0), (5, -1), (0, 0)):
            numbers = LINE + place
            for index in range(6):
                for number in OUTSIDE:
                    changed = with_number(numbers, index, number)
                    self.assertEqual(side(*changed), REFUSAL, changed)

    def test_over_refuses_each_number_beyond_the_bounds(self):
        for way in WAYS:
            numbers = LINE + way
            for index in range(8):
                for number in OUTSIDE:
                    changed = with_number(numbers, index, number)
                    self.assertEqual(over(*changed), REFUSAL, changed)

    def test_side_takes_each_number_at_the_bounds(self):
        numbers = (0, 0, 10, 5, 4, 3)
        answers = {
            BOUND: ([1], [2], [1], [2], [2], [1]),
            -BOUND: ([2], [1], [2], [1], [1], [2]),
        }
        for number, expected in answers.items():
            for index in range(6):
                changed = with_number(numbers, index, number)
                self.assertEqual(side(*changed), expected[index], changed)

    def test_over_takes_each_number_at_the_bounds(self):
        for way in WAYS:
            numbers = LINE + way
            for index in range(8):
                for number in (BOUND, -BOUND):
                    changed = with_number(numbers, index, number)
                    self.assertEqual(over(*changed), over_by_meeting(*in_places(changed)), changed)

    def test_near_refuses_each_number_beyond_the_bounds(self):
        for line in LINES:
            for place in PLACES:
                for index in range(6):
                    for number in OUTSIDE:
                        changed = with_number(line + place, index, number)
                        self.assertEqual(near(*changed), REFUSAL, changed)

    def test_nearer_refuses_each_number_beyond_the_bounds(self):
        for line in LINES:
            for c in PLACES:
                for d in PLACES:
                    for index in range(8):
                        for number in OUTSIDE:
                            changed = with_number(line + c + d, index, number)
                            self.assertEqual(nearer(*changed), REFUSAL, changed)

    def test_near_takes_each_number_at_the_bounds(self):
        for line in LINES:
            for place in PLACES:
                for index in range(6):
                    for number in (BOUND, -BOUND):
                        changed = with_number(line + place, index, number)
                        self.assertEqual(near(*changed), near_by_parabola(*in_places(changed)), changed)

    def test_nearer_takes_each_number_at_the_bounds(self):
        for line in LINES:
            for c, d in zip(PLACES, PLACES[1:] + PLACES[:1]):
                for index in range(8):
                    for number in (BOUND, -BOUND):
                        changed = with_number(line + c + d, index, number)
                        self.assertEqual(nearer(*changed), nearer_by_parabola(*in_places(changed)), changed)

    def test_touch_and_astern_refuse_each_number_beyond_the_bounds(self):
        for hulls in HULLS:
            for index in range(8):
                for number in OUTSIDE:
                    changed = with_number(hulls, index, number)
                    self.assertEqual(touch(*changed), REFUSAL, changed)
                    self.assertEqual(astern(*changed), REFUSAL, changed)

    def test_touch_and_astern_take_each_number_at_the_bounds(self):
        for hulls in HULLS:
            for index in range(8):
                for number in (BOUND, -BOUND):
                    changed = with_number(hulls, index, number)
                    self.assertEqual(touch(*changed), touch_by_meeting(*in_places(changed)), changed)
                    self.assertEqual(astern(*changed), astern_by_distances(*in_places(changed)), changed)

    def test_tack_refuses_each_number_beyond_the_bounds(self):
        for numbers in TACKS:
            for index in range(6):
                for number in OUTSIDE:
                    for before in (1, -1):
                        changed = with_number(numbers, index, number)
                        self.assertEqual(tack(*changed, before), REFUSAL, (changed, before))

    def test_lee_refuses_each_number_beyond_the_bounds(self):
        for hulls in HULLS:
            for wind in WINDS:
                for index in range(10):
                    for number in OUTSIDE:
                        changed = with_number(hulls + wind, index, number)
                        self.assertEqual(lee(*changed), REFUSAL, changed)

    def test_tack_takes_each_number_at_the_bounds(self):
        for numbers in TACKS:
            for index in range(6):
                for number in (BOUND, -BOUND):
                    for before in (1, -1):
                        changed = with_number(numbers, index, number)
                        expected = tack_by_slope(*in_places(changed), before)
                        self.assertEqual(tack(*changed, before), expected, (changed, before))

    def test_lee_takes_each_number_at_the_bounds(self):
        for hulls in HULLS:
            for wind in WINDS:
                for index in range(10):
                    for number in (BOUND, -BOUND):
                        changed = with_number(hulls + wind, index, number)
                        self.assertEqual(lee(*changed), lee_by_distances(*in_places(changed)), changed)

    def test_all_numbers_beyond_the_bounds(self):
        for number in OUTSIDE:
            self.assertEqual(side(*[number] * 6), REFUSAL)
            self.assertEqual(over(*[number] * 8), REFUSAL)
            self.assertEqual(near(*[number] * 6), REFUSAL)
            self.assertEqual(nearer(*[number] * 8), REFUSAL)
            self.assertEqual(touch(*[number] * 8), REFUSAL)
            self.assertEqual(astern(*[number] * 8), REFUSAL)
            self.assertEqual(tack(*[number] * 7), REFUSAL)
            self.assertEqual(lee(*[number] * 10), REFUSAL)


class RefusedLines(unittest.TestCase):
    def test_side_refuses_a_line_that_is_one_place(self):
        for place in ((0, 0), (3, -4), (BOUND, BOUND), (-BOUND, BOUND)):
            for c in ((0, 0), (1, 0), (0, -1), place):
                self.assertEqual(side(*place, *place, *c), REFUSAL)

    def test_over_refuses_a_line_that_is_one_place(self):
        for place in ((0, 0), (5, 0), (BOUND, BOUND), (-BOUND, BOUND)):
            for way in WAYS:
                self.assertEqual(over(*place, *place, *way), REFUSAL)

    def test_near_and_nearer_take_a_line_that_is_one_place(self):
        for place in ((0, 0), (5, 0), (BOUND, BOUND), (-BOUND, BOUND)):
            self.assertEqual(near(*place, *place, *place), [0, 0, 1])
            self.assertEqual(near(*place, *place, 0, 0), [0, place[0] ** 2 + place[1] ** 2, 1])
            self.assertEqual(nearer(*place, *place, *place, 1, 1), [1])
            self.assertEqual(nearer(*place, *place, 1, 1, *place), [2])
            self.assertEqual(nearer(*place, *place, 1, 1, 1, 1), [0])

    def test_one_number_alike_is_no_refusal(self):
        self.assertEqual(side(3, 1, 3, 2, 0, 0), [1])
        self.assertEqual(side(1, 3, 2, 3, 0, 0), [2])
        self.assertEqual(over(3, 1, 3, 5, 4, 2, 2, 2), [1, 1, 2])
        self.assertEqual(over(1, 3, 5, 3, 2, 2, 2, 4), [1, 1, 2])

    def test_two_reasons_are_one_refusal(self):
        self.assertEqual(side(1, 1, 1, 1, BOUND + 1, 0), REFUSAL)
        self.assertEqual(over(1, 1, 1, 1, 0, BOUND + 1, LOWEST, HIGHEST), REFUSAL)
        self.assertEqual(near(LOWEST, 1, 1, BOUND + 1, 0, HIGHEST), REFUSAL)
        self.assertEqual(nearer(1, 1, 1, 1, 0, BOUND + 1, LOWEST, HIGHEST), REFUSAL)

    def test_c_at_an_end_of_the_line_is_no_refusal(self):
        self.assertEqual(side(1, 2, 3, 4, 1, 2), [0])
        self.assertEqual(side(1, 2, 3, 4, 3, 4), [0])
        self.assertEqual(over(1, 2, 3, 4, 1, 2, 3, 4), [0])
        self.assertEqual(over(1, 2, 3, 4, 3, 4, 1, 2), [0])


class RefusedHulls(unittest.TestCase):
    PLACES = ((0, 0), (0, 2), (3, -4), (BOUND, BOUND), (-BOUND, BOUND))
    HULLS = ((0, 4, 0, 0), (2, 2, -2, 2), (5, 1, 3, 0), (-BOUND, BOUND, BOUND, -BOUND))

    def refused(self, numbers):
        self.assertEqual(touch(*numbers), REFUSAL, numbers)
        self.assertEqual(astern(*numbers), REFUSAL, numbers)
        for wind in WINDS:
            self.assertEqual(lee(*numbers, *wind), REFUSAL, (numbers, wind))

    def test_a_hull_that_is_one_place(self):
        for place in self.PLACES:
            for hull in self.HULLS:
                self.refused(place + place + hull)
                self.refused(hull + place + place)

    def test_both_hulls_one_place(self):
        for place in self.PLACES:
            for other in self.PLACES:
                self.refused(place + place + other + other)

    def test_tack_refuses_a_hull_that_is_one_place(self):
        for place in self.PLACES:
            for wind in WINDS + [(BOUND, -BOUND)]:
                for before in (1, -1):
                    self.assertEqual(tack(*place, *place, *wind, before), REFUSAL, (place, wind, before))

    def test_bow_and_stern_alike_in_one_of_x_and_y(self):
        for hull in self.HULLS:
            for alike in ((3, 1, 3, 2), (3, 2, 3, 1), (1, 3, 2, 3), (2, 3, 1, 3), (0, 0, 0, 1), (1, 0, 0, 0)):
                for numbers in (hull + alike, alike + hull, alike + alike):
                    self.assertEqual(touch(*numbers), touch_by_meeting(*in_places(numbers)), numbers)
                    self.assertEqual(astern(*numbers), astern_by_distances(*in_places(numbers)), numbers)
                    self.assertEqual(lee(*numbers, 1, 3), lee_by_distances(*in_places(numbers), (1, 3)), numbers)
                self.assertEqual(tack(*alike, 1, 3, 1), tack_by_slope(*in_places(alike), (1, 3), 1), alike)
        self.assertEqual(touch(3, 1, 3, 2, 3, 2, 4, 2), [1])
        self.assertEqual(touch(3, 1, 3, 2, 4, 2, 5, 2), [0])
        self.assertEqual(astern(3, 2, 3, 1, 5, 0, 4, 0), [3])
        self.assertEqual(astern(3, 2, 3, 1, 5, 1, 4, 1), [1])

    def test_bow_and_stern_with_x_and_y_changed(self):
        self.assertEqual(touch(1, 2, 2, 1, 1, 1, 2, 2), [1])
        self.assertEqual(astern(1, 2, 2, 1, 1, 1, 2, 2), [0])
        self.assertEqual(touch(5, -5, -5, 5, 0, 9, 9, 0), [0])

    def test_a_place_of_both_hulls_is_no_refusal(self):
        self.assertEqual(touch(0, 4, 0, 0, 0, 4, 3, 3), [1])
        self.assertEqual(touch(0, 4, 0, 0, 0, 4, 0, 0), [1])
        self.assertEqual(astern(0, 4, 0, 0, 0, 4, 3, 3), [0])
        self.assertEqual(astern(0, 4, 0, 0, 0, 4, 0, 0), [0])

    def test_two_reasons_are_one_refusal(self):
        self.refused((1, 1, 1, 1, BOUND + 1, 0, 0, 0))
        self.refused((BOUND + 1, 0, BOUND + 1, 0, 0, 0, 1, 0))
        self.refused((LOWEST, HIGHEST, LOWEST, HIGHEST, 1, 1, 1, 1))


class RefusedWinds(unittest.TestCase):
    def test_tack_refuses_a_wind_that_is_nothing(self):
        for numbers in TACKS:
            for before in (1, -1):
                self.assertEqual(tack(*numbers[:4], 0, 0, before), REFUSAL, (numbers, before))

    def test_lee_refuses_a_wind_that_is_nothing(self):
        for hulls in HULLS:
            self.assertEqual(lee(*hulls, 0, 0), REFUSAL, hulls)

    def test_a_wind_with_one_number_0_is_no_refusal(self):
        for u, v in ((1, 0), (-1, 0), (0, 1), (0, -1), (BOUND, 0), (-BOUND, 0), (0, BOUND), (0, -BOUND)):
            for numbers in TACKS:
                for before in (1, -1):
                    expected = tack_by_slope(*in_places(numbers[:4]), (u, v), before)
                    self.assertEqual(tack(*numbers[:4], u, v, before), expected, (numbers, u, v, before))
            for hulls in HULLS:
                self.assertEqual(lee(*hulls, u, v), lee_by_distances(*in_places(hulls), (u, v)), (hulls, u, v))
        self.assertEqual(tack(3, 3, 1, 1, -1, 0, -1), [1])
        self.assertEqual(tack(3, 3, 1, 1, 0, -1, 1), [2])
        self.assertEqual(lee(3, 3, 1, 1, 5, 2, 1, 0, 1, 0), [1])
        self.assertEqual(lee(3, 3, 1, 1, 5, 2, 1, 0, 0, 1), [2])

    def test_numbers_of_the_wind_that_are_alike_or_opposite_are_no_refusal(self):
        self.assertEqual(tack(3, 4, 1, 1, 2, 2, 1), [2])
        self.assertEqual(tack(3, 4, 1, 1, 2, -2, 1), [2])
        self.assertEqual(lee(3, 4, 1, 1, 7, 8, 5, 4, -2, 2), [2])
        self.assertEqual(lee(3, 4, 1, 1, 7, 8, 5, 4, 2, 2), [1])


class RefusedBefore(unittest.TestCase):
    def test_another_number_than_1_and_minus_1(self):
        # The wind from a side too, where before would tell nothing.
        for numbers in TACKS:
            for before in OTHER_BEFORES:
                self.assertEqual(tack(*numbers, before), REFUSAL, (numbers, before))

    def test_1_and_minus_1_are_no_refusal(self):
        for numbers in TACKS:
            for before in (1, -1):
                self.assertIn(tack(*numbers, before), ([1], [2]), (numbers, before))


class TwoReasonsOfWinds(unittest.TestCase):
    def test_of_tack(self):
        self.assertEqual(tack(1, 1, 1, 1, 0, 0, 1), REFUSAL)
        self.assertEqual(tack(1, 1, 1, 1, 2, 3, 0), REFUSAL)
        self.assertEqual(tack(0, 4, 0, 0, 0, 0, 2), REFUSAL)
        self.assertEqual(tack(0, BOUND + 1, 0, 0, 0, 0, -1), REFUSAL)
        self.assertEqual(tack(0, BOUND + 1, 0, 0, 1, LOWEST, -1), REFUSAL)
        self.assertEqual(tack(0, 4, 0, 0, HIGHEST, 0, HIGHEST), REFUSAL)
        self.assertEqual(tack(LOWEST, HIGHEST, LOWEST, HIGHEST, 0, 0, 0), REFUSAL)

    def test_of_lee(self):
        self.assertEqual(lee(1, 1, 1, 1, 0, 4, 0, 0, 0, 0), REFUSAL)
        self.assertEqual(lee(0, 4, 0, 0, 1, 1, 1, 1, 0, 0), REFUSAL)
        self.assertEqual(lee(1, 1, 1, 1, 2, 2, 2, 2, 0, 0), REFUSAL)
        self.assertEqual(lee(0, 4, 0, 0, 2, -BOUND - 1, 1, 1, 0, 0), REFUSAL)
        self.assertEqual(lee(0, 4, 0, 0, 2, -BOUND - 1, 1, 1, LOWEST, HIGHEST), REFUSAL)
        self.assertEqual(lee(1, 1, 1, 1, 0, 4, 0, 0, BOUND + 1, 0), REFUSAL)


if __name__ == "__main__":
    unittest.main()
