import unittest

from tests.exact import BOUND, HIGHEST, LOWEST, REFUSAL, over_by_meeting
from waterways.desk import over, side

OUTSIDE = (BOUND + 1, -BOUND - 1, LOWEST, HIGHEST, LOWEST + 1, HIGHEST - 1)
LINE = (0, 0, 10, 0)

# Ways of every sort, so that no answer is found before all places are looked at.
WAYS = [
    (5, -1, 5, 1),  # goes over
    (5, 1, 5, -1),  # from the left to the right
    (5, 1, 5, 2),  # on the left
    (5, -1, 5, -2),  # on the right
    (5, 0, 6, 0),  # on the line
    (20, -1, 20, 1),  # meets the line beyond q
    (5, 3, 5, 3),  # one place
]


def with_number(numbers, index, number):
    changed = list(numbers)
    changed[index] = number
    return changed


class RefusedNumbers(unittest.TestCase):
    def test_side_refuses_each_number_beyond_the_bounds(self):
        for place in ((5, 1), (5, 0), (5, -1), (0, 0)):
            numbers = LINE + place
            for index in range(6):
                for number in OUTSIDE:
                    changed = with_number(numbers, index, number)
                    self.assertEqual(side(*changed), REFUSAL, changed)

    def test_over_refuses_each_number_beyond_the_bounds(self):
        for way in WAYS:
            numbers = LINE + way
            for index in range(8):
                for number in OUTSIDE:
                    changed = with_number(numbers, index, number)
                    self.assertEqual(over(*changed), REFUSAL, changed)

    def test_side_takes_each_number_at_the_bounds(self):
        numbers = (0, 0, 10, 5, 4, 3)
        answers = {
            BOUND: ([1], [2], [1], [2], [2], [1]),
            -BOUND: ([2], [1], [2], [1], [1], [2]),
        }
        for number, expected in answers.items():
            for index in range(6):
                changed = with_number(numbers, index, number)
                self.assertEqual(side(*changed), expected[index], changed)

    def test_over_takes_each_number_at_the_bounds(self):
        for way in WAYS:
            numbers = LINE + way
            for index in range(8):
                for number in (BOUND, -BOUND):
                    changed = with_number(numbers, index, number)
                    places = [tuple(changed[k:k + 2]) for k in (0, 2, 4, 6)]
                    self.assertEqual(over(*changed), over_by_meeting(*places), changed)

    def test_all_numbers_beyond_the_bounds(self):
        for number in OUTSIDE:
            self.assertEqual(side(*[number] * 6), REFUSAL)
            self.assertEqual(over(*[number] * 8), REFUSAL)


class RefusedLines(unittest.TestCase):
    def test_side_refuses_a_line_that_is_one_place(self):
        for place in ((0, 0), (3, -4), (BOUND, BOUND), (-BOUND, BOUND)):
            for c in ((0, 0), (1, 0), (0, -1), place):
                self.assertEqual(side(*place, *place, *c), REFUSAL)

    def test_over_refuses_a_line_that_is_one_place(self):
        for place in ((0, 0), (5, 0), (BOUND, BOUND), (-BOUND, BOUND)):
            for way in WAYS:
                self.assertEqual(over(*place, *place, *way), REFUSAL)

    def test_one_number_alike_is_no_refusal(self):
        self.assertEqual(side(3, 1, 3, 2, 0, 0), [1])
        self.assertEqual(side(1, 3, 2, 3, 0, 0), [2])
        self.assertEqual(over(3, 1, 3, 5, 4, 2, 2, 2), [1, 1, 2])
        self.assertEqual(over(1, 3, 5, 3, 2, 2, 2, 4), [1, 1, 2])

    def test_two_reasons_are_one_refusal(self):
        self.assertEqual(side(1, 1, 1, 1, BOUND + 1, 0), REFUSAL)
        self.assertEqual(over(1, 1, 1, 1, 0, BOUND + 1, LOWEST, HIGHEST), REFUSAL)

    def test_c_at_an_end_of_the_line_is_no_refusal(self):
        self.assertEqual(side(1, 2, 3, 4, 1, 2), [0])
        self.assertEqual(side(1, 2, 3, 4, 3, 4), [0])
        self.assertEqual(over(1, 2, 3, 4, 1, 2, 3, 4), [0])
        self.assertEqual(over(1, 2, 3, 4, 3, 4, 1, 2), [0])


if __name__ == "__main__":
    unittest.main()
