"""The calls: what is told of places, lines, hulls and winds, in whole numbers and fractions, nothing rounded.

Within this file a place and a vector, as a wind is, are a tuple (x, y), a hull is a tuple of two places (bow, stern).
"""

BOUND = 1048576


def refusal():
    return [-8]


def by_sign(number):
    """The answer of a call that tells 1 if the number is above 0, 2 if it is below, else 0."""
    if number > 0:
        return [1]
    if number < 0:
        return [2]
    return [0]


def is_beyond(places):
    """Whether a number of one of these places is out of bounds."""
    return any([max(abs(place[0]), abs(place[1])) > BOUND for place in places])


def less(a, b):
    return (a[0] - b[0], a[1] - b[1])


def cross(a, b):
    return a[0] * b[1] - a[1] * b[0]


def dot(a, b):
    return a[0] * b[0] + a[1] * b[1]


def leftness(p, q, c):
    """How far c is on the left of the line from p to q; below 0 it is on the right."""
    return cross(less(q, p), less(c, p))


def common_divisor(a, b):
    while b != 0:
        rest = a % b
        a = b
        b = rest
    return a


def lowest_terms(numerator, denominator):
    """The fraction as a list of two numbers; the numerator is not below 0, the denominator is above 0."""
    divisor = common_divisor(numerator, denominator)
    return [numerator // divisor, denominator // divisor]


def side(px, py, qx, qy, cx, cy):
    """On which side of the line from p to q is c: [1] left, [0] on it, [2] right; [-8] is a refusal."""
    p = (px, py)
    q = (qx, qy)
    c = (cx, cy)
    if is_beyond([p, q, c]) or p == q:
        return refusal()
    return by_sign(leftness(p, q, c))


def meets_between(p, q, c, d):
    """Whether the straight from c, not on the left, to d, on the left, meets the line at p, at q or between.

    Such a way leaves p on its left and q on its right, so two crosses tell it
    and the place where they meet, which need not be whole, is never reckoned.
    """
    return leftness(c, d, p) >= 0 and leftness(c, d, q) <= 0


def over(px, py, qx, qy, cx, cy, dx, dy):
    """Whether the way from c to d goes over the line from p to q: [1, numerator, denominator of when] or [0].

    [-8] is a refusal.
    """
    p = (px, py)
    q = (qx, qy)
    c = (cx, cy)
    d = (dx, dy)
    if is_beyond([p, q, c, d]) or p == q:
        return refusal()
    right_at_c = -leftness(p, q, c)
    left_at_d = leftness(p, q, d)
    if right_at_c < 0 or left_at_d <= 0 or not meets_between(p, q, c, d):
        return [0]
    return [1] + lowest_terms(right_at_c, right_at_c + left_at_d)


def square_distance(p, q, c):
    """The square of the distance from c to the nearest place of the straight between p and q, a fraction.

    Where p and q are one place, along is nothing, and the first answer, that of the distance to p, holds.
    """
    along = less(q, p)
    from_p = less(c, p)
    from_q = less(c, q)
    if dot(along, from_p) <= 0:
        return [dot(from_p, from_p), 1]
    if dot(along, from_q) >= 0:
        return [dot(from_q, from_q), 1]
    across = cross(along, from_p)
    return lowest_terms(across * across, dot(along, along))


def near(px, py, qx, qy, cx, cy):
    """How near c is to the straight between p and q: [0, numerator, denominator of the distance's square].

    [-8] is a refusal.
    """
    p = (px, py)
    q = (qx, qy)
    c = (cx, cy)
    if is_beyond([p, q, c]):
        return refusal()
    return [0] + square_distance(p, q, c)


def nearer(px, py, qx, qy, cx, cy, dx, dy):
    """Which is nearer to the straight between p and q: [1] c, [2] d, [0] they are as near; [-8] is a refusal."""
    p = (px, py)
    q = (qx, qy)
    c = (cx, cy)
    d = (dx, dy)
    if is_beyond([p, q, c, d]):
        return refusal()
    of_c = square_distance(p, q, c)
    of_d = square_distance(p, q, d)
    # Both denominators are above 0, so the fractions stand to each other as these products do.
    return by_sign(of_d[0] * of_c[1] - of_c[0] * of_d[1])


def is_no_hull(hull):
    """Whether a place of it is out of bounds, or bow and stern are one place."""
    return is_beyond(hull) or hull[0] == hull[1]


def heading(hull):
    return less(hull[0], hull[1])


def is_aside(hull, other):
    """Whether the whole hull is on one side of the line through the other, and nothing of it on the line."""
    return leftness(other[1], other[0], hull[0]) * leftness(other[1], other[0], hull[1]) > 0


def spans_meet(a, b, axis):
    """Whether the straights of these hulls have an x (axis 0) or a y (axis 1) in common."""
    a_numbers = [place[axis] for place in a]
    b_numbers = [place[axis] for place in b]
    return min(a_numbers) <= max(b_numbers) and min(b_numbers) <= max(a_numbers)


def touch(abowx, abowy, asternx, asterny, bbowx, bbowy, bsternx, bsterny):
    """Whether the hulls a and b touch: [1] or [0]; [-8] is a refusal."""
    a = ((abowx, abowy), (asternx, asterny))
    b = ((bbowx, bbowy), (bsternx, bsterny))
    if is_no_hull(a) or is_no_hull(b):
        return refusal()
    if is_aside(a, b) or is_aside(b, a):
        return [0]
    # Neither hull is aside if both lie on one line, even far from each other: there the spans tell it.
    if spans_meet(a, b, 0) and spans_meet(a, b, 1):
        return [1]
    return [0]


def is_clear_astern(hull, other):
    """Whether the hull is clear astern of the other."""
    ahead = heading(other)
    return all([dot(ahead, less(place, other[1])) < 0 for place in hull])


def astern(abowx, abowy, asternx, asterny, bbowx, bbowy, bsternx, bsterny):
    """Who is clear astern: [1] a of b, [2] b of a, [3] each of the other, [0] they overlap; [-8] is a refusal."""
    a = ((abowx, abowy), (asternx, asterny))
    b = ((bbowx, bbowy), (bsternx, bsterny))
    if is_no_hull(a) or is_no_hull(b):
        return refusal()
    a_is_astern = is_clear_astern(a, b)
    b_is_astern = is_clear_astern(b, a)
    if a_is_astern and b_is_astern:
        return [3]
    if a_is_astern:
        return [1]
    if b_is_astern:
        return [2]
    return [0]


def is_no_wind(wind):
    """Whether a number of it is out of bounds, or it is nothing."""
    return is_beyond([wind]) or wind == (0, 0)


def tack(abowx, abowy, asternx, asterny, u, v, before):
    """On which tack is the hull a: [1] starboard, [2] port; [-8] is a refusal.

    Before, 1 starboard and -1 port, tells it where the wind blows straight from ahead or from astern.
    """
    a = ((abowx, abowy), (asternx, asterny))
    wind = (u, v)
    if is_no_hull(a) or is_no_wind(wind) or before not in (1, -1):
        return refusal()
    to_the_left = cross(heading(a), wind)
    if to_the_left == 0:
        return by_sign(before)
    return by_sign(to_the_left)


def middle(hull):
    """Bow and stern together: without halving them, so that it is whole."""
    return (hull[0][0] + hull[1][0], hull[0][1] + hull[1][1])


def lee(abowx, abowy, asternx, asterny, bbowx, bbowy, bsternx, bsterny, u, v):
    """Who is to leeward: [1] b of a, [2] a of b, [0] neither; [-8] is a refusal."""
    a = ((abowx, abowy), (asternx, asterny))
    b = ((bbowx, bbowy), (bsternx, bsterny))
    wind = (u, v)
    if is_no_hull(a) or is_no_hull(b) or is_no_wind(wind):
        return refusal()
    return by_sign(dot(wind, less(middle(b), middle(a))))
