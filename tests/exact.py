"""What the tests share: places, and answers reckoned by another way than the program's."""

from fractions import Fraction

BOUND = 1048576
REFUSAL = [-8]
LOWEST = -2147483648
HIGHEST = 2147483647


def flat(*places):
    """The numbers of these places, in the order in which a call takes them."""
    return [number for place in places for number in place]


def grid(reach):
    return [(x, y) for x in range(-reach, reach + 1) for y in range(-reach, reach + 1)]


def stretch(number, first, last):
    """How far along from first to last the number lies, as a fraction."""
    return Fraction(number - first, last - first)


def side_by_slope(p, q, c):
    """The side, from the height of the line above or below c."""
    if p[0] == q[0]:
        to_the_west = (p[0] > c[0]) - (p[0] < c[0])
        lead = to_the_west if q[1] > p[1] else -to_the_west
    else:
        height = p[1] + stretch(c[0], p[0], q[0]) * (q[1] - p[1])
        above = (c[1] > height) - (c[1] < height)
        lead = above if q[0] > p[0] else -above
    return [{1: 1, 0: 0, -1: 2}[lead]]


def gap(p, q, c):
    """A number that is 0 on the line and changes evenly across it: (x or y of c) less the line's."""
    if p[0] == q[0]:
        return Fraction(c[0] - p[0])
    return c[1] - (p[1] + stretch(c[0], p[0], q[0]) * (q[1] - p[1]))


def over_by_meeting(p, q, c, d):
    """The answer of over, from the very place at which way and line meet."""
    if side_by_slope(p, q, c) == [1] or side_by_slope(p, q, d) != [1]:
        return [0]
    at_c = gap(p, q, c)
    at_d = gap(p, q, d)
    when = at_c / (at_c - at_d)
    meeting = [c[k] + when * (d[k] - c[k]) for k in range(2)]
    axis = 0 if p[0] != q[0] else 1
    if not 0 <= stretch(meeting[axis], p[axis], q[axis]) <= 1:
        return [0]
    return [1, when.numerator, when.denominator]
