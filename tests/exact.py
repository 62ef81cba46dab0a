"""What the tests share: places, and answers reckoned by another way than the program's."""

from fractions import Fraction
from math import gcd, lcm

BOUND = 1048576
REFUSAL = [-8]
LOWEST = -2147483648
HIGHEST = 2147483647


def flat(*places):
    """The numbers of these places, in the order in which a call takes them."""
    return [number for place in places for number in place]


def grid(reach):
    return [(x, y) for x in range(-reach, reach + 1) for y in range(-reach, reach + 1)]


def stretch(number, first, last):
    """How far along from first to last the number lies, as a fraction."""
    return Fraction(number - first, last - first)


def side_by_slope(p, q, c):
    """The side, from the height of the line above or below c."""
    if p[0] == q[0]:
        to_the_west = (p[0] > c[0]) - (p[0] < c[0])
        lead = to_the_west if q[1] > p[1] else -to_the_west
    else:
        height = p[1] + stretch(c[0], p[0], q[0]) * (q[1] - p[1])
        above = (c[1] > height) - (c[1] < height)
        lead = above if q[0] > p[0] else -above
    return [{1: 1, 0: 0, -1: 2}[lead]]


def gap(p, q, c):
    """A number that is 0 on the line and changes evenly across it: (x or y of c) less the line's."""
    if p[0] == q[0]:
        return Fraction(c[0] - p[0])
    return c[1] - (p[1] + stretch(c[0], p[0], q[0]) * (q[1] - p[1]))


def over_by_meeting(p, q, c, d):
    """The answer of over, from the very place at which way and line meet."""
    if side_by_slope(p, q, c) == [1] or side_by_slope(p, q, d) != [1]:
        return [0]
    at_c = gap(p, q, c)
    at_d = gap(p, q, d)
    when = at_c / (at_c - at_d)
    meeting = [c[k] + when * (d[k] - c[k]) for k in range(2)]
    axis = 0 if p[0] != q[0] else 1
    if not 0 <= stretch(meeting[axis], p[axis], q[axis]) <= 1:
        return [0]
    return [1, when.numerator, when.denominator]


def distance_square(place, other):
    return sum((place[k] - other[k]) ** 2 for k in range(2))


def place_at(p, q, part):
    """The place at this fraction of the way from p to q."""
    return tuple(p[k] + part * (q[k] - p[k]) for k in range(2))


def nearest_part(p, q, c):
    """At which fraction of the way from p to q is the place nearest to c.

    The square of the distance is a parabola over the way; three of its values tell where it is lowest.
    """
    if p == q:
        return Fraction(0)
    at_p, at_half, at_q = [distance_square(place_at(p, q, Fraction(k, 2)), c) for k in range(3)]
    bend = 2 * at_p + 2 * at_q - 4 * at_half
    slope = at_q - at_p - bend
    return min(max(-slope / (2 * bend), Fraction(0)), Fraction(1))


def distance_by_parabola(p, q, c):
    return Fraction(distance_square(place_at(p, q, nearest_part(p, q, c)), c))


def near_by_parabola(p, q, c):
    distance = distance_by_parabola(p, q, c)
    return [0, distance.numerator, distance.denominator]


def nearer_by_parabola(p, q, c, d):
    of_c = distance_by_parabola(p, q, c)
    of_d = distance_by_parabola(p, q, d)
    return [(of_c < of_d) + 2 * (of_d < of_c)]


def touch_by_meeting(abow, astern, bbow, bstern):
    """The answer of touch, from the very place at which a's straight is on the line through b."""
    axis = 0 if bbow[0] != bstern[0] else 1
    at_bow = gap(bbow, bstern, abow)
    at_stern = gap(bbow, bstern, astern)
    if at_bow == at_stern == 0:
        first, last = sorted(stretch(place[axis], bbow[axis], bstern[axis]) for place in (abow, astern))
        return [int(first <= 1 and last >= 0)]
    if at_bow == at_stern:
        return [0]
    part = at_bow / (at_bow - at_stern)
    meeting = place_at(abow, astern, part)
    return [int(0 <= part <= 1 and 0 <= stretch(meeting[axis], bbow[axis], bstern[axis]) <= 1)]


def places_listed(bow, stern, finest):
    """The places of the straight at every fraction of its way with a denominator up to finest.

    All numbers are stretched alike, so that these places are whole.
    """
    unit = lcm(*range(1, finest + 1))
    parts = [k * (unit // n) for n in range(1, finest + 1) for k in range(n + 1) if gcd(k, n) == 1]
    return {tuple(unit * bow[k] + part * (stern[k] - bow[k]) for k in range(2)) for part in parts}


def is_behind(bow, stern, c):
    """Whether the corner at the stern, between bow and c, is wider than a right one: of three distances' squares."""
    return distance_square(bow, c) > distance_square(bow, stern) + distance_square(stern, c)


def astern_by_distances(abow, astern, bbow, bstern):
    a_is = is_behind(bbow, bstern, abow) and is_behind(bbow, bstern, astern)
    b_is = is_behind(abow, astern, bbow) and is_behind(abow, astern, bstern)
    return [a_is + 2 * b_is]


def tack_by_slope(bow, stern, wind, before):
    """The answer of tack, from the side of the line through the hull to which the wind blows from its stern."""
    told = side_by_slope(stern, bow, (stern[0] + wind[0], stern[1] + wind[1]))
    return told if told != [0] else [{1: 1, -1: 2}[before]]


def lee_by_distances(abow, astern, bbow, bstern, wind):
    """The answer of lee: the hull to leeward is nearer to a place far down the wind than to one as far up it."""
    middle_of_a = place_at(abow, astern, Fraction(1, 2))
    middle_of_b = place_at(bbow, bstern, Fraction(1, 2))
    down = [middle_of_a[k] + wind[k] for k in range(2)]
    up = [middle_of_a[k] - wind[k] for k in range(2)]
    to_down = distance_square(middle_of_b, down)
    to_up = distance_square(middle_of_b, up)
    return [(to_down < to_up) + 2 * (to_up < to_down)]


def drawn(count, how_many, reach):
    """This many tuples of places drawn from the bounds -reach and reach, the same ones whenever it is called."""
    state = 20261116 + reach

    def number():
        nonlocal state
        state = (state * 6364136223846793005 + 1442695040888963407) % 2 ** 64
        return (state >> 24) % (2 * reach + 1) - reach

    return [tuple((number(), number()) for place in range(how_many)) for row in range(count)]


def drawn_hulls(count, reach):
    """Two hulls each, the bow and stern of a, then of b."""
    return [places for places in drawn(count, 4, reach) if places[0] != places[1] and places[2] != places[3]]


def drawn_tacks(count, reach):
    """Bow and stern of a hull and a wind each."""
    return [row for row in drawn(count, 3, reach) if row[0] != row[1] and row[2] != (0, 0)]


def drawn_lees(count, reach):
    """Bow and stern of a, then of b, and a wind each."""
    return [row for row in drawn(count, 5, reach) if row[0] != row[1] and row[2] != row[3] and row[4] != (0, 0)]
