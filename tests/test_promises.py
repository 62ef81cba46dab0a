"""The document's points 1, 2 and 4, as far as they speak of side and over."""

import unittest
from fractions import Fraction
from math import gcd

from tests.exact import BOUND, REFUSAL, flat, grid
from waterways.desk import over, side

TURNED_ROUND = {1: 2, 0: 0, 2: 1}


def quarter(place):
    return (-place[1], place[0])


def mirrored(place):
    return (-place[0], place[1])


def moved(place, by):
    return (place[0] + by[0], place[1] + by[1])


def great_places():
    numbers = (-BOUND, 5 - BOUND, 7, BOUND)
    return [(x, y) for x in numbers for y in numbers]


def triples():
    """Three places each, the first two not one place."""
    for places in (grid(1) + [(3, 2), (-2, 5)], great_places()):
        for p in places:
            for q in places:
                if p != q:
                    for c in places:
                        yield p, q, c


def ways():
    """A line and a way each, p, q, c, d, of every kind."""
    for p, q in (((0, 0), (3, 0)), ((0, 2), (0, -1)), ((-1, -2), (2, 1)), ((2, 0), (-1, 1)), ((1, 0), (-1, -3))):
        for c in grid(3):
            for d in grid(3):
                yield p, q, c, d
    for p in ((-BOUND, 3), (2, -BOUND)):
        for q in ((BOUND, -8), (11, BOUND)):
            for c in great_places():
                for d in great_places():
                    yield p, q, c, d


def places_on_the_way(c, d):
    """Whole places from c to d, both too, each with the fraction of the way: all, or some of a long way."""
    steps = gcd(d[0] - c[0], d[1] - c[1])
    if steps == 0:
        return [(Fraction(0), c)]
    some = sorted({k * steps // 12 for k in range(13)})
    return [
        (Fraction(k, steps), (c[0] + (d[0] - c[0]) // steps * k, c[1] + (d[1] - c[1]) // steps * k))
        for k in some
    ]


class PointOne(unittest.TestCase):
    def test_sides_change_with_the_lines_turning(self):
        for p, q, c in triples():
            self.assertEqual(side(*flat(q, p, c)), [TURNED_ROUND[side(*flat(p, q, c))[0]]], (p, q, c))

    def test_each_of_three_places_is_on_the_same_side_of_the_line_through_the_others(self):
        for p, q, c in triples():
            if c in (p, q):
                continue
            told = side(*flat(p, q, c))
            self.assertEqual(side(*flat(q, c, p)), told, (p, q, c))
            self.assertEqual(side(*flat(c, p, q)), told, (p, q, c))


class PointTwo(unittest.TestCase):
    def test_the_samples_hold_ways_over_and_others(self):
        told = [over(*flat(*way)) for way in ways()]
        self.assertGreater(len([answer for answer in told if answer[0] == 1]), 1000)
        self.assertGreater(len([answer for answer in told if answer == [0]]), 1000)
        self.assertEqual(len([answer for answer in told if answer == REFUSAL]), 0)

    def test_not_on_the_left_before_and_on_the_left_behind(self):
        for p, q, c, d in ways():
            answer = over(*flat(p, q, c, d))
            if answer[0] != 1:
                continue
            when = Fraction(answer[1], answer[2])
            for part, place in places_on_the_way(c, d):
                told = side(*flat(p, q, place))
                self.assertEqual(told == [1], part > when, (p, q, c, d, place))
                if part == when:
                    self.assertEqual(told, [0], (p, q, c, d, place))

    def test_the_fraction_is_in_lowest_terms_and_below_one(self):
        for way in ways():
            answer = over(*flat(*way))
            if answer[0] == 1:
                first, numerator, denominator = answer
                self.assertGreater(denominator, 0)
                self.assertTrue(0 <= numerator < denominator, way)
                self.assertEqual(gcd(numerator, denominator), 1, way)

    def test_nothing_is_0_1(self):
        for p, q, c, d in ways():
            answer = over(*flat(p, q, c, d))
            if answer[0] == 1:
                self.assertEqual(answer == [1, 0, 1], side(*flat(p, q, c)) == [0], (p, q, c, d))

    def test_cut_anywhere_just_one_part_goes_over(self):
        for p, q, c, d in ways():
            whole = over(*flat(p, q, c, d))
            for part, place in places_on_the_way(c, d):
                first = over(*flat(p, q, c, place))
                second = over(*flat(p, q, place, d))
                self.assertEqual(first[0] + second[0], whole[0], (p, q, c, d, place))

    def test_cut_anywhere_it_is_over_at_the_same_moment(self):
        for p, q, c, d in ways():
            whole = over(*flat(p, q, c, d))
            if whole[0] != 1:
                continue
            when = Fraction(whole[1], whole[2])
            for part, place in places_on_the_way(c, d):
                first = over(*flat(p, q, c, place))
                second = over(*flat(p, q, place, d))
                if first[0] == 1:
                    self.assertEqual(part * Fraction(first[1], first[2]), when, (p, q, c, d, place))
                else:
                    self.assertEqual(part + (1 - part) * Fraction(second[1], second[2]), when, (p, q, c, d, place))


class PointFour(unittest.TestCase):
    def test_turned_by_a_quarter(self):
        for places in triples():
            turned = [quarter(place) for place in places]
            self.assertEqual(side(*flat(*turned)), side(*flat(*places)), places)
        for places in ways():
            turned = [quarter(place) for place in places]
            self.assertEqual(over(*flat(*turned)), over(*flat(*places)), places)

    def test_moved_all_alike(self):
        for by in ((1, 0), (0, -1), (17, -300), (5 - BOUND, BOUND - 5)):
            for places in triples():
                if max(abs(number) for number in flat(*places)) > 5:
                    continue
                away = [moved(place, by) for place in places]
                self.assertEqual(side(*flat(*away)), side(*flat(*places)), (places, by))
            for places in ways():
                if max(abs(number) for number in flat(*places)) > 5:
                    continue
                away = [moved(place, by) for place in places]
                self.assertEqual(over(*flat(*away)), over(*flat(*places)), (places, by))

    def test_in_a_mirror_left_is_right(self):
        for places in triples():
            seen = [mirrored(place) for place in places]
            self.assertEqual(side(*flat(*seen)), [TURNED_ROUND[side(*flat(*places))[0]]], places)

    def test_in_a_mirror_a_way_goes_over_the_line_turned(self):
        for p, q, c, d in ways():
            seen = [mirrored(place) for place in (q, p, c, d)]
            self.assertEqual(over(*flat(*seen)), over(*flat(p, q, c, d)), (p, q, c, d))


if __name__ == "__main__":
    unittest.main()
