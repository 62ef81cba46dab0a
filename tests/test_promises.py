"""The document's points 1 to 4, over all the calls."""

import unittest
from fractions import Fraction
from math import gcd

from tests.exact import (
    BOUND, REFUSAL, distance_square, drawn, drawn_hulls, drawn_lees, drawn_tacks, flat, grid, nearest_part, place_at,
)
from waterways.desk import astern, lee, near, nearer, over, side, tack, touch

ONE_AND_TWO_CHANGED = {1: 2, 0: 0, 2: 1}
REACHES = (2, 9, 400, BOUND)


def quarter(place):
    return (-place[1], place[0])


def mirrored(place):
    return (-place[0], place[1])


# To the west, to the south, and across the slant.
MIRRORS = (mirrored, lambda place: (place[0], -place[1]), lambda place: (place[1], place[0]))


def moved(place, by):
    return (place[0] + by[0], place[1] + by[1])


def great_places():
    numbers = (-BOUND, 5 - BOUND, 7, BOUND)
    return [(x, y) for x in numbers for y in numbers]


def stepped(place, by, count):
    """The place this many steps away."""
    return (place[0] + count * by[0], place[1] + count * by[1])


def triples():
    """Three places each, the first two not one place."""
    for reach in REACHES:
        for p, q, c in drawn(400, 3, reach):
            if p != q:
                yield p, q, c
    # On the line, between its ends and beyond them.
    for p, by, c in drawn(100, 3, 5000):
        if by != (0, 0):
            yield p, stepped(p, by, 7), stepped(p, by, 3)
            yield p, stepped(p, by, 7), stepped(p, by, 11)
            yield stepped(p, by, -90), p, stepped(p, by, -91)
    for places in (grid(1) + [(3, 2), (-2, 5)], great_places()):
        for p in places:
            for q in places:
                if p != q:
                    for c in places:
                        yield p, q, c


def ways():
    """A line and a way each, p, q, c, d, of every kind."""
    for p, q in (((0, 0), (3, 0)), ((0, 2), (0, -1)), ((-1, -2), (2, 1)), ((2, 0), (-1, 1)), ((1, 0), (-1, -3))):
        for c in grid(3):
            for d in grid(3):
                yield p, q, c, d
    for p in ((-BOUND, 3), (2, -BOUND)):
        for q in ((BOUND, -8), (11, BOUND)):
            for c in great_places():
                for d in great_places():
                    yield p, q, c, d
    for reach in REACHES:
        for p, q, c, d in drawn(400, 4, reach):
            if p != q:
                yield p, q, c, d
    # With many whole places on the way, one of them on the line, and the line's ends near and far.
    for c, by, p, along in drawn(150, 4, 40):
        if along != (0, 0):
            crossing = stepped(c, by, 4)
            yield stepped(crossing, along, -3), stepped(crossing, along, 2), c, stepped(c, by, 12)
            yield crossing, stepped(crossing, along, 900), c, stepped(c, by, 12)
            yield stepped(crossing, along, -1), crossing, c, stepped(c, by, 12)
            yield p, stepped(p, along, 25), c, stepped(c, by, 12)


def straights():
    """A straight and a place each, p, q, c, with p and q one place among them."""
    for p, q in (((0, 0), (0, 0)), ((-1, 0), (3, 0)), ((0, 2), (0, -1)), ((-2, -1), (2, 1)), ((2, -2), (-1, 1))):
        for c in grid(4):
            yield p, q, c
    for reach in REACHES:
        for p, q, c in drawn(150, 3, reach):
            yield p, q, c
            yield p, p, c


def pairs_of_places():
    """A straight and two places each, p, q, c, d, with p and q one place among them, and c and d at its ends."""
    for reach in REACHES:
        for p, q, c, d in drawn(250, 4, reach):
            yield p, q, c, d
            yield p, p, c, d
            yield p, q, p, d
            yield p, q, c, q
    for p, q in (((0, 0), (2, 1)), ((1, -1), (-2, -1)), ((1, 1), (1, 1))):
        for c in grid(2):
            for d in grid(2):
                yield p, q, c, d


def pairs_of_hulls():
    """Two hulls each, bow and stern of a, then of b, among them hulls with an end in common and on one line."""
    for reach in REACHES:
        for places in drawn_hulls(600, reach):
            yield places
    for reach in (2, 4):
        for abow, astern_of_a, bbow, bstern in drawn_hulls(200, reach):
            yield abow, astern_of_a, abow, moved(abow, (1, reach))
            yield abow, astern_of_a, astern_of_a, moved(astern_of_a, (-1, 1))
            along = (astern_of_a[0] - abow[0], astern_of_a[1] - abow[1])
            yield abow, astern_of_a, moved(astern_of_a, along), moved(abow, along)
            yield abow, astern_of_a, moved(moved(astern_of_a, along), along), moved(astern_of_a, along)


def hulls_and_winds():
    """Bow and stern of a hull and a wind each, the wind from ahead and from astern among them."""
    for reach in REACHES:
        for bow, stern, wind in drawn_tacks(600, reach):
            yield bow, stern, wind
    for reach in (3, 500, BOUND // 4):
        for bow, stern, wind in drawn_tacks(150, reach):
            yield bow, stern, (bow[0] - stern[0], bow[1] - stern[1])
            yield bow, stern, (2 * stern[0] - 2 * bow[0], 2 * stern[1] - 2 * bow[1])
            yield moved(stern, wind), stern, wind


def pairs_of_hulls_and_winds():
    """Bow and stern of a, then of b, and a wind each, among them middles at one place and level across the wind."""
    for reach in REACHES:
        for row in drawn_lees(600, reach):
            yield row
    for reach in (2, 400, BOUND // 4):
        for abow, astern_of_a, bbow, bstern, wind in drawn_lees(150, reach):
            across = quarter(wind)
            others = [
                (moved(abow, across), moved(astern_of_a, across)),
                (stepped(abow, bbow, 2), stepped(astern_of_a, bbow, -2)),
                (moved(abow, (1, 0)), astern_of_a),
            ]
            for bow, stern in others:
                if bow != stern:
                    yield abow, astern_of_a, bow, stern, wind


def told_distance(p, q, c):
    first, numerator, denominator = near(*flat(p, q, c))
    return Fraction(numerator, denominator)


def places_on_the_way(c, d):
    """Whole places from c to d, both too, each with the fraction of the way: all, or some of a long way."""
    steps = gcd(d[0] - c[0], d[1] - c[1])
    if steps == 0:
        return [(Fraction(0), c)]
    some = sorted({k * steps // 12 for k in range(13)})
    return [
        (Fraction(k, steps), (c[0] + (d[0] - c[0]) // steps * k, c[1] + (d[1] - c[1]) // steps * k))
        for k in some
    ]


class PointOne(unittest.TestCase):
    def test_sides_change_with_the_lines_turning(self):
        for p, q, c in triples():
            self.assertEqual(side(*flat(q, p, c)), [ONE_AND_TWO_CHANGED[side(*flat(p, q, c))[0]]], (p, q, c))

    def test_each_of_three_places_is_on_the_same_side_of_the_line_through_the_others(self):
        for p, q, c in triples():
            if c in (p, q):
                continue
            told = side(*flat(p, q, c))
            self.assertEqual(side(*flat(q, c, p)), told, (p, q, c))
            self.assertEqual(side(*flat(c, p, q)), told, (p, q, c))


class PointTwo(unittest.TestCase):
    def test_the_samples_hold_ways_over_and_others(self):
        told = [over(*flat(*way)) for way in ways()]
        self.assertGreater(len([answer for answer in told if answer[0] == 1]), 1000)
        self.assertGreater(len([answer for answer in told if answer == [0]]), 1000)
        self.assertEqual(len([answer for answer in told if answer == REFUSAL]), 0)

    def test_not_on_the_left_before_and_on_the_left_behind(self):
        for p, q, c, d in ways():
            answer = over(*flat(p, q, c, d))
            if answer[0] != 1:
                continue
            when = Fraction(answer[1], answer[2])
            for part, place in places_on_the_way(c, d):
                told = side(*flat(p, q, place))
                self.assertEqual(told == [1], part > when, (p, q, c, d, place))
                if part == when:
                    self.assertEqual(told, [0], (p, q, c, d, place))

    def test_the_fraction_is_in_lowest_terms_and_below_one(self):
        for way in ways():
            answer = over(*flat(*way))
            if answer[0] == 1:
                first, numerator, denominator = answer
                self.assertGreater(denominator, 0)
                self.assertTrue(0 <= numerator < denominator, way)
                self.assertEqual(gcd(numerator, denominator), 1, way)

    def test_nothing_is_0_1(self):
        for p, q, c, d in ways():
            answer = over(*flat(p, q, c, d))
            if answer[0] == 1:
                self.assertEqual(answer == [1, 0, 1], side(*flat(p, q, c)) == [0], (p, q, c, d))

    def test_cut_anywhere_just_one_part_goes_over(self):
        for p, q, c, d in ways():
            whole = over(*flat(p, q, c, d))
            for part, place in places_on_the_way(c, d):
                first = over(*flat(p, q, c, place))
                second = over(*flat(p, q, place, d))
                self.assertEqual(first[0] + second[0], whole[0], (p, q, c, d, place))

    def test_cut_anywhere_it_is_over_at_the_same_moment(self):
        for p, q, c, d in ways():
            whole = over(*flat(p, q, c, d))
            if whole[0] != 1:
                continue
            when = Fraction(whole[1], whole[2])
            for part, place in places_on_the_way(c, d):
                first = over(*flat(p, q, c, place))
                second = over(*flat(p, q, place, d))
                if first[0] == 1:
                    self.assertEqual(part * Fraction(first[1], first[2]), when, (p, q, c, d, place))
                else:
                    self.assertEqual(part + (1 - part) * Fraction(second[1], second[2]), when, (p, q, c, d, place))


class PointThree(unittest.TestCase):
    def test_no_whole_place_of_the_straight_is_nearer_than_told(self):
        for p, q, c in straights():
            told = told_distance(p, q, c)
            for part, place in places_on_the_way(p, q):
                self.assertGreaterEqual(distance_square(place, c), told, (p, q, c, place))

    def test_no_place_at_a_fraction_of_the_straight_is_nearer_than_told(self):
        parts = [Fraction(k, 16) for k in range(17)] + [Fraction(1, 10 ** 9), 1 - Fraction(1, 10 ** 9)]
        for p, q, c in straights():
            told = told_distance(p, q, c)
            for part in parts:
                self.assertGreaterEqual(distance_square(place_at(p, q, part), c), told, (p, q, c, part))

    def test_no_place_beside_the_nearest_is_nearer_than_told(self):
        for p, q, c in straights():
            told = told_distance(p, q, c)
            nearest = nearest_part(p, q, c)
            for step in (Fraction(1, 7), Fraction(1, 10 ** 6), Fraction(1, 10 ** 30)):
                for part in (max(nearest - step, 0), min(nearest + step, 1)):
                    self.assertGreaterEqual(distance_square(place_at(p, q, part), c), told, (p, q, c, part))

    def test_one_place_of_the_straight_is_as_near_as_told(self):
        for p, q, c in straights():
            nearest = nearest_part(p, q, c)
            self.assertTrue(0 <= nearest <= 1)
            self.assertEqual(distance_square(place_at(p, q, nearest), c), told_distance(p, q, c), (p, q, c))

    def test_near_is_nothing_only_on_the_straight(self):
        for p, q, c in straights():
            on_it = min(p[0], q[0]) <= c[0] <= max(p[0], q[0]) and min(p[1], q[1]) <= c[1] <= max(p[1], q[1])
            on_it = on_it and (p == q or side(*flat(p, q, c)) == [0])
            self.assertEqual(near(*flat(p, q, c)) == [0, 0, 1], on_it, (p, q, c))

    def test_nearer_agrees_with_near(self):
        answers = []
        for p, q, c, d in pairs_of_places():
            of_c = told_distance(p, q, c)
            of_d = told_distance(p, q, d)
            answers.append(nearer(*flat(p, q, c, d)))
            self.assertEqual(answers[-1], [1] if of_c < of_d else [2] if of_d < of_c else [0], (p, q, c, d))
        for answer in ([0], [1], [2]):
            self.assertGreater(answers.count(answer), 100)

    def test_c_and_d_changed(self):
        for p, q, c, d in pairs_of_places():
            told = nearer(*flat(p, q, c, d))
            self.assertEqual(nearer(*flat(p, q, d, c)), [ONE_AND_TWO_CHANGED[told[0]]], (p, q, c, d))

    def test_p_and_q_changed(self):
        for p, q, c in straights():
            self.assertEqual(near(*flat(q, p, c)), near(*flat(p, q, c)), (p, q, c))
        for p, q, c, d in pairs_of_places():
            self.assertEqual(nearer(*flat(q, p, c, d)), nearer(*flat(p, q, c, d)), (p, q, c, d))


class PointFour(unittest.TestCase):
    def test_turned_by_a_quarter(self):
        for places in triples():
            turned = [quarter(place) for place in places]
            self.assertEqual(side(*flat(*turned)), side(*flat(*places)), places)
        for places in ways():
            turned = [quarter(place) for place in places]
            self.assertEqual(over(*flat(*turned)), over(*flat(*places)), places)
        for places in straights():
            turned = [quarter(place) for place in places]
            self.assertEqual(near(*flat(*turned)), near(*flat(*places)), places)
        for places in pairs_of_places():
            turned = [quarter(place) for place in places]
            self.assertEqual(nearer(*flat(*turned)), nearer(*flat(*places)), places)

    def test_moved_all_alike(self):
        for by in ((1, 0), (0, -1), (17, -300), (5 - BOUND, BOUND - 5)):
            for places in triples():
                if max(abs(number) for number in flat(*places)) > 5:
                    continue
                away = [moved(place, by) for place in places]
                self.assertEqual(side(*flat(*away)), side(*flat(*places)), (places, by))
            for places in ways():
                if max(abs(number) for number in flat(*places)) > 5:
                    continue
                away = [moved(place, by) for place in places]
                self.assertEqual(over(*flat(*away)), over(*flat(*places)), (places, by))
            for places in straights():
                if max(abs(number) for number in flat(*places)) > 5:
                    continue
                away = [moved(place, by) for place in places]
                self.assertEqual(near(*flat(*away)), near(*flat(*places)), (places, by))
            for places in pairs_of_places():
                if max(abs(number) for number in flat(*places)) > 5:
                    continue
                away = [moved(place, by) for place in places]
                self.assertEqual(nearer(*flat(*away)), nearer(*flat(*places)), (places, by))

    def test_in_a_mirror_left_is_right(self):
        for mirror in MIRRORS:
            for places in triples():
                seen = [mirror(place) for place in places]
                self.assertEqual(side(*flat(*seen)), [ONE_AND_TWO_CHANGED[side(*flat(*places))[0]]], places)

    def test_in_a_mirror_a_way_goes_over_the_line_turned(self):
        for mirror in MIRRORS:
            for p, q, c, d in ways():
                seen = [mirror(place) for place in (q, p, c, d)]
                self.assertEqual(over(*flat(*seen)), over(*flat(p, q, c, d)), (p, q, c, d))

    def test_in_a_mirror_all_is_as_near(self):
        for mirror in MIRRORS:
            for places in straights():
                seen = [mirror(place) for place in places]
                self.assertEqual(near(*flat(*seen)), near(*flat(*places)), places)
            for places in pairs_of_places():
                seen = [mirror(place) for place in places]
                self.assertEqual(nearer(*flat(*seen)), nearer(*flat(*places)), places)


class PointFourOfHulls(unittest.TestCase):
    def told_the_same(self, change, hulls):
        for places in hulls:
            changed = [change(place) for place in places]
            self.assertEqual(touch(*flat(*changed)), touch(*flat(*places)), places)
            self.assertEqual(astern(*flat(*changed)), astern(*flat(*places)), places)

    def test_the_samples_hold_every_answer(self):
        told = [touch(*flat(*places)) for places in pairs_of_hulls()]
        for answer in ([0], [1]):
            self.assertGreater(told.count(answer), 500)
        self.assertEqual(told.count(REFUSAL), 0)
        told = [astern(*flat(*places)) for places in pairs_of_hulls()]
        for answer in ([0], [1], [2], [3]):
            self.assertGreater(told.count(answer), 50)
        self.assertEqual(told.count(REFUSAL), 0)

    def test_touching_does_not_hang_on_who_is_first(self):
        for abow, astern_of_a, bbow, bstern in pairs_of_hulls():
            told = touch(*flat(abow, astern_of_a, bbow, bstern))
            self.assertEqual(touch(*flat(bbow, bstern, abow, astern_of_a)), told, (abow, astern_of_a, bbow, bstern))

    def test_touching_does_not_hang_on_which_end_is_the_bow(self):
        for abow, astern_of_a, bbow, bstern in pairs_of_hulls():
            told = touch(*flat(abow, astern_of_a, bbow, bstern))
            self.assertEqual(touch(*flat(astern_of_a, abow, bbow, bstern)), told, (abow, astern_of_a, bbow, bstern))
            self.assertEqual(touch(*flat(abow, astern_of_a, bstern, bbow)), told, (abow, astern_of_a, bbow, bstern))

    def test_astern_with_a_and_b_changed(self):
        changed = {1: [2], 2: [1], 0: [0], 3: [3]}
        for abow, astern_of_a, bbow, bstern in pairs_of_hulls():
            told = astern(*flat(abow, astern_of_a, bbow, bstern))
            other = astern(*flat(bbow, bstern, abow, astern_of_a))
            self.assertEqual(other, changed[told[0]], (abow, astern_of_a, bbow, bstern))

    def test_turned_by_a_quarter(self):
        self.told_the_same(quarter, pairs_of_hulls())

    def test_moved_all_alike(self):
        near_hulls = [places for places in pairs_of_hulls() if max(abs(number) for number in flat(*places)) <= 9]
        self.assertGreater(len(near_hulls), 1000)
        for by in ((1, 0), (0, -1), (17, -300), (9 - BOUND, BOUND - 9)):
            self.told_the_same(lambda place: moved(place, by), near_hulls)

    def test_in_a_mirror(self):
        for mirror in MIRRORS:
            self.told_the_same(mirror, pairs_of_hulls())


class PointFourOfTack(unittest.TestCase):
    def test_the_samples_hold_every_answer(self):
        told = [(tack(*flat(*row), 1)[0], tack(*flat(*row), -1)[0]) for row in hulls_and_winds()]
        for answers in ((1, 1), (2, 2), (1, 2)):
            self.assertGreater(told.count(answers), 500)
        self.assertEqual(len(told), sum(told.count(answers) for answers in ((1, 1), (2, 2), (1, 2))))

    def test_turned_by_a_quarter(self):
        for row in hulls_and_winds():
            turned = [quarter(pair) for pair in row]
            for before in (1, -1):
                self.assertEqual(tack(*flat(*turned), before), tack(*flat(*row), before), (row, before))

    def test_moved_all_alike(self):
        near_hulls = [row for row in hulls_and_winds() if max(abs(number) for number in flat(*row[:2])) <= 9]
        self.assertGreater(len(near_hulls), 500)
        for by in ((1, 0), (0, -1), (17, -300), (9 - BOUND, BOUND - 9)):
            for bow, stern, wind in near_hulls:
                away = flat(moved(bow, by), moved(stern, by), wind)
                for before in (1, -1):
                    told = tack(*flat(bow, stern, wind), before)
                    self.assertEqual(tack(*away, before), told, (bow, stern, wind, by, before))

    def test_in_a_mirror_starboard_is_port(self):
        for mirror in MIRRORS:
            for row in hulls_and_winds():
                seen = [mirror(pair) for pair in row]
                for before in (1, -1):
                    told = tack(*flat(*row), before)
                    self.assertEqual(tack(*flat(*seen), -before), [ONE_AND_TWO_CHANGED[told[0]]], (row, before))


class PointFourOfLee(unittest.TestCase):
    def told_the_same(self, change, rows):
        for row in rows:
            changed = [change(pair) for pair in row]
            self.assertEqual(lee(*flat(*changed)), lee(*flat(*row)), row)

    def test_the_samples_hold_every_answer(self):
        told = [lee(*flat(*row)) for row in pairs_of_hulls_and_winds()]
        for answer in ([0], [1], [2]):
            self.assertGreater(told.count(answer), 500)
        self.assertEqual(told.count(REFUSAL), 0)

    def test_lee_does_not_hang_on_who_is_first(self):
        for abow, astern_of_a, bbow, bstern, wind in pairs_of_hulls_and_winds():
            told = lee(*flat(abow, astern_of_a, bbow, bstern, wind))
            other = lee(*flat(bbow, bstern, abow, astern_of_a, wind))
            self.assertEqual(other, [ONE_AND_TWO_CHANGED[told[0]]], (abow, astern_of_a, bbow, bstern, wind))

    def test_turned_by_a_quarter(self):
        self.told_the_same(quarter, pairs_of_hulls_and_winds())

    def test_moved_all_alike(self):
        near_hulls = [row for row in pairs_of_hulls_and_winds() if max(abs(number) for number in flat(*row[:4])) <= 9]
        self.assertGreater(len(near_hulls), 500)
        for by in ((1, 0), (0, -1), (17, -300), (9 - BOUND, BOUND - 9)):
            for row in near_hulls:
                away = [moved(place, by) for place in row[:4]]
                self.assertEqual(lee(*flat(*away, row[4])), lee(*flat(*row)), (row, by))

    def test_in_a_mirror(self):
        for mirror in MIRRORS:
            self.told_the_same(mirror, pairs_of_hulls_and_winds())


if __name__ == "__main__":
    unittest.main()
