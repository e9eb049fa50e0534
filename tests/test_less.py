"""Point 3 of the document: two rows of quotients compared."""

import unittest

from quotientrows.fractions import less, of
from tests.samples import (
    GREATEST_NUMBER, LEAST_NUMBER, TOP, PairCalls, PairRefusals, called_with_little_depth, great_pairs, neighbours,
    small_rows, value_of,
)

FIRSTS = (-TOP, -3, -2, -1, 0, 1, 2, TOP)


class LessCase(unittest.TestCase):
    def check(self, t, u, expected):
        """That the answer is as expected, and that it is turned round with t and u."""
        for answer in (less(t, u), less(u, t)):
            self.assertIs(type(answer), list)
            self.assertIs(type(answer[0]), int)
        self.assertEqual(less(t, u), [expected], (t, u))
        self.assertEqual(less(u, t), [(0, 2, 1)[expected]], (u, t))

    def check_by_value(self, t, u):
        """That the answer is as the values ask; gives back which one that is."""
        first, second = value_of(t), value_of(u)
        expected = 1 if first < second else 2 if second < first else 0
        self.check(t, u, expected)
        return expected


class OrdinaryRows(LessCase):
    def test_differing_at_the_first_place(self):
        self.check([1, 2], [2, 3], 1)
        self.check([4, 2, 6, 7], [3, 7, 16], 2)
        self.check([0, 2], [1, 2], 1)
        self.check([-1, 2], [0, 2], 1)
        self.check([-3, 1, 2], [-5, 1, 1, 6, 7], 2)
        self.check([-2, 9], [3, 9], 1)
        self.check([-1, 1, 90], [0, 90], 1)

    def test_differing_at_an_odd_place(self):
        for first in FIRSTS:
            self.check([first, 2], [first, 3], 2)
            self.check([first, 7, 16], [first, 3, 5], 1)
            self.check([first, 1, 90], [first, 2], 2)
            self.check([first, 2, 6, 7], [first, 2, 6, 8], 2)
            self.check([first, 2, 6, 1, 2], [first, 2, 6, 2, 9, 9], 2)

    def test_differing_at_an_even_place(self):
        for first in FIRSTS:
            self.check([first, 2, 6], [first, 2, 7], 1)
            self.check([first, 2, 6, 7], [first, 2, 5, 7], 2)
            self.check([first, 1, 2], [first, 1, 1, 2], 2)
            self.check([first, 1, 1, 1, 2], [first, 1, 1, 1, 3], 1)

    def test_lesser_quotient_with_much_behind_it(self):
        self.check([0, 3, 1, TOP], [0, 4], 2)
        self.check([0, 5, 3, 1, TOP], [0, 5, 4], 1)


class AsTheValues(LessCase):
    def test_all_small_rows(self):
        rows = sorted(small_rows(range(-2, 3), 3, 4), key=value_of)
        self.assertEqual(len(rows), 135)
        for upper in range(len(rows)):
            for lower in range(upper):
                self.check(rows[lower], rows[upper], 1)

    def test_small_fractions(self):
        fractions = [(p, q) for q in range(1, 9) for p in range(-17, 18)]
        rows = [of(p, q)[1:] for p, q in fractions]
        for (p, q), t in zip(fractions, rows):
            for (other_p, other_q), u in zip(fractions, rows):
                left, right = p * other_q, other_p * q
                self.assertEqual(less(t, u), [1 if left < right else 2 if right < left else 0], (t, u))

    def test_great_rows(self):
        answers = [0, 0, 0]
        for t, u in great_pairs(1000):
            answers[self.check_by_value(t, u)] += 1
        self.assertTrue(min(answers[1:]) > 300, answers)


class Edges(LessCase):
    ROWS = ([0], [1], [-1], [TOP], [-TOP], [-1, 2], [0, 2], [4, 2, 6, 7], [0, TOP], [TOP] * 96, [0] + [1] * 94 + [2])

    def test_equal_lists(self):
        for row in self.ROWS:
            self.check(row, list(row), 0)

    def test_the_very_same_list(self):
        for row in self.ROWS:
            self.check(row, row, 0)

    def test_one_number(self):
        numbers = (-TOP, 1 - TOP, -93, -2, -1, 0, 1, 2, 93, TOP - 1, TOP)
        for lesser, greater in zip(numbers, numbers[1:]):
            self.check([lesser], [greater], 1)
        self.check([-TOP], [TOP], 1)

    def test_zero_and_what_lies_beside_it(self):
        self.check([0], [0, TOP], 1)
        self.check([-1, 1, TOP], [0], 1)
        self.check([0], [0, TOP, TOP], 1)

    def test_minus_one_half(self):
        self.check([-1, 2], [0], 1)
        self.check([-1], [-1, 2], 1)
        self.check([-1, 2], [0, 2], 1)
        self.check([-1, 3], [-1, 2], 1)
        self.check([-1, 2], [-1, 1, 2], 1)

    def test_beginning_that_ends_at_an_even_place(self):
        for first in FIRSTS:
            for more in ([2], [TOP], [1, 2], [5, 3, 1, 2]):
                self.check([first], [first] + more, 1)
                self.check([first, 2, 6], [first, 2, 6] + more, 1)
                self.check([first, 1, 1, 1, 2], [first, 1, 1, 1, 2] + more, 1)

    def test_beginning_that_ends_at_an_odd_place(self):
        for first in FIRSTS:
            for more in ([2], [TOP], [1, 2], [5, 3, 1, 2]):
                self.check([first, 2], [first, 2] + more, 2)
                self.check([first, TOP, 1, 7], [first, TOP, 1, 7] + more, 2)

    def test_beginning_of_96_quotients(self):
        row = [2] * 96
        for length in range(1, 96):
            self.check(row[:length], row, 1 if length % 2 == 1 else 2)

    def test_96_quotients_that_differ_at_one_place(self):
        for number in (1, 2, TOP - 1):
            for place in range(95):
                row = [number] * 95 + [2]
                other = row[:place] + [number + 1] + row[place + 1:]
                self.check(row, other, 1 if place % 2 == 0 else 2)

    def test_96_quotients_that_differ_at_the_last_place_alone(self):
        for number in (1, 2, TOP):
            for first in FIRSTS:
                alike = [first] + [number] * 94
                self.check(alike + [2], alike + [3], 2)
                self.check(alike + [TOP - 1], alike + [TOP], 2)

    def test_95_quotients_that_differ_at_the_last_place_alone(self):
        for number in (1, 2, TOP):
            alike = [0] + [number] * 93
            self.check(alike + [2], alike + [3], 1)
            self.check(alike + [TOP - 1], alike + [TOP], 1)

    def test_a_one_ahead_of_the_end(self):
        self.check([1], [0, 1, TOP], 2)
        self.check([1, 2], [1, 1, 2], 1)
        self.check([1, 3, 2], [1, 3, 1, 2], 2)
        self.check([3, 1, 2], [4], 1)

    def test_values_beyond(self):
        self.check([TOP, 2], [TOP, 3], 2)
        self.check([-TOP, 2], [-TOP, 3], 2)
        self.check([TOP], [TOP, TOP], 1)
        self.check([-TOP], [-TOP, TOP], 1)
        self.check([0, TOP, TOP], [0, TOP], 1)
        self.check([0, TOP, TOP], [0, TOP, TOP - 1], 2)
        self.check([0, TOP, TOP, TOP], [0, TOP, TOP, TOP - 1], 1)
        self.check([TOP, TOP, TOP, TOP], [TOP, TOP, TOP, TOP, TOP], 2)
        self.check([-TOP] + [TOP] * 95, [TOP] * 96, 1)

    def test_neighbours(self):
        for lesser, greater in neighbours()[2:]:
            row = of(lesser, greater)[1:]
            self.check_by_value(row, row[:-1] + [3])
            self.check_by_value(row, row[:-1] + [1, 2])
            self.check_by_value(row, row[:-2] + [2])

    def test_long_rows_are_gone_through_by_loops(self):
        row = [TOP] * 95
        self.assertEqual(called_with_little_depth(less, row + [2], row + [3]), [2])


class NoRows(PairRefusals, unittest.TestCase):
    call = staticmethod(less)

    def test_fault_behind_the_first_place_where_they_differ(self):
        for number in (0, -1, -TOP, LEAST_NUMBER, TOP + 1, GREATEST_NUMBER):
            self.check_refused([1, 2, number, 2], [2])
            self.check_refused([1, 2, number], [2, 5, 5])
            self.check_refused([1, 2, 5, number], [1, 3, 5, 7])
            self.check_refused([1] * 95 + [number], [2])
        self.check_refused([1, 2, 1], [2])
        self.check_refused([1, 2, 5, 1], [1, 3, 5, 7])
        self.check_refused([1] * 96 + [2], [2])
        self.check_refused([1] * 99 + [2], [0, 2])

    def test_fault_where_both_are_alike(self):
        self.check_refused([TOP + 1, 2], [TOP + 1, 3])
        self.check_refused([3, 0, 2], [3, 0, 3])
        self.check_refused([3, 1], [3, 1, 2])


class EachCallByItself(PairCalls, unittest.TestCase):
    call = staticmethod(less)
    PAIRS = (
        ([4, 2, 6, 7], [4, 2, 6, 8]), ([4, 2, 6, 7], [4, 2, 6, 7]), ([-1, 2], [0]), ([3], [3, 2]), ([], [1]),
        ([1], [1, 1]), ([3, 0, 2], [3]), ([TOP] * 96, [TOP] * 95), ([2] * 97, [2] * 96), ([5], [LEAST_NUMBER]),
    )


if __name__ == "__main__":
    unittest.main()
