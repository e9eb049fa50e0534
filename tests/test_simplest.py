"""Point 4 of the document: the simplest fraction from one row's value to another's."""

import math
import unittest
from fractions import Fraction

from quotientrows.fractions import less, of, simplest, value
from tests.samples import (
    GREATEST_NUMBER, LEAST_NUMBER, TOP, PairCalls, PairRefusals, called_with_little_depth, great_pairs, small_rows,
    value_of,
)

FIRSTS = (-TOP, -3, -2, -1, 0, 1, 2, TOP)


def searched(low, high):
    """The simplest fraction from low to high, by going through every q and every p."""
    q = 1
    while True:
        found = range(math.ceil(low * q), math.floor(high * q) + 1)
        if found:
            return Fraction(min(found, key=lambda p: (abs(p), p < 0)), q)
        q += 1


def is_simplest(fraction, low, high):
    """Whether no fraction from low to high is simpler than this one; also where a search would take too long."""
    p, q = fraction.numerator, fraction.denominator
    if q == 1:
        return p == 0 or p > 0 and low > p - 1 or p < 0 and high < p + 1
    # The two nearest fractions with a lesser q on either side: between them, all others have a greater q.
    lower_q = pow(p, -1, q)
    lower_p = (p * lower_q - 1) // q
    return Fraction(lower_p, lower_q) < low and high < Fraction(p - lower_p, q - lower_q)


class SimplestCase(unittest.TestCase):
    def check(self, t, u, expected):
        """That this row is answered, that it is what the document asks, and that the other way round is refused."""
        self.assertEqual(simplest(t, u), [len(expected)] + expected, (t, u))
        self.check_by_value(t, u)

    def check_by_value(self, t, u):
        answer = simplest(t, u)
        self.assertIs(type(answer), list)
        for number in answer:
            self.assertIs(type(number), int)
        row = answer[1:]
        self.check_row(row)
        self.assertEqual(answer[0], len(row), (t, u))
        low, high, between = value_of(t), value_of(u), value_of(row)
        self.assertTrue(low <= between <= high, (t, u))
        self.assertTrue(is_simplest(between, low, high), (t, u))
        self.assertEqual(simplest(u, t), answer if low == high else [-33], (u, t))
        return between

    def check_row(self, row):
        self.assertTrue(1 <= len(row) <= 96, row)
        self.assertTrue(all(abs(quotient) <= TOP for quotient in row), row)
        self.assertTrue(all(quotient >= 1 for quotient in row[1:]), row)
        self.assertTrue(len(row) == 1 or row[-1] >= 2, row)

    def check_either_way(self, t, u, expected):
        """The same, with the one of lesser value first."""
        if value_of(u) < value_of(t):
            t, u = u, t
        self.check(t, u, expected)


class OrdinaryRows(SimplestCase):
    def test_no_whole_number_between_above_zero(self):
        self.check([3, 7, 16], [3, 7], [3, 7])
        self.check([3, 8], [3, 6], [3, 6])
        self.check([3, 8], [3, 6, 2], [3, 7])
        self.check([4, 2, 5, 3], [4, 2, 6, 7], [4, 2, 6])
        self.check([0, 3], [0, 1, 2], [0, 2])
        self.check([0, 1, 2], [0, 1, 4], [0, 1, 2])
        self.check([0, 1, 2, 3], [0, 1, 4], [0, 1, 3])

    def test_no_whole_number_between_below_zero(self):
        self.check([-1, 3], [-1, 1, 2], [-1, 2])
        self.check([-1, 9], [-1, 5, 3], [-1, 6])
        self.check([-5, 1, 1, 9], [-5, 1, 1, 6, 7], [-5, 1, 1, 7])
        self.check([-3, 1, 2], [-3, 1, 4], [-3, 1, 2])

    def test_one_whole_number_between(self):
        self.check([2, 2], [3, 2], [3])
        self.check([2, 1, 9], [3, 9], [3])
        self.check([-3, 2], [-2, 2], [-2])
        self.check([-4, 1, 9], [-3, 9], [-3])

    def test_several_whole_numbers_between(self):
        self.check([2, 2], [9, 2], [3])
        self.check([92, 1, 2], [415, 7], [93])
        self.check([-9, 2], [-3, 2], [-3])
        self.check([-415, 7], [-93, 1, 2], [-93])
        self.check([-6, 1, 9], [-4, 1, 9], [-4])

    def test_below_and_above_zero(self):
        self.check([-1, 2], [0, 2], [0])
        self.check([-5, 1, 1, 6, 7], [4, 2, 6, 7], [0])
        self.check([-93], [415], [0])
        self.check([-1, 1, 90], [0, 90], [0])
        self.check([-1], [1], [0])


class NoOtherIsSimpler(SimplestCase):
    def test_all_small_rows(self):
        rows = sorted(small_rows(range(-2, 2), 3, 4), key=value_of)
        for upper in range(len(rows)):
            for lower in range(upper + 1):
                between = self.check_by_value(rows[lower], rows[upper])
                self.assertEqual(between, searched(value_of(rows[lower]), value_of(rows[upper])))

    def test_small_fractions(self):
        fractions = sorted({Fraction(p, q) for q in range(1, 10) for p in range(-14, 15)})
        rows = [of(fraction.numerator, fraction.denominator)[1:] for fraction in fractions]
        for upper in range(len(rows)):
            for lower in range(upper + 1):
                between = value_of(simplest(rows[lower], rows[upper])[1:])
                self.assertEqual(between, searched(fractions[lower], fractions[upper]), (rows[lower], rows[upper]))

    def test_fractions_near_one_another(self):
        for q in range(40, 60):
            for p in range(-2 * q, 2 * q):
                low, high = Fraction(p, q), Fraction(p + 1, q + 1) if p < q else Fraction(p, q - 1)
                if high < low:
                    low, high = high, low
                rows = [of(end.numerator, end.denominator)[1:] for end in (low, high)]
                self.assertEqual(value_of(simplest(*rows)[1:]), searched(low, high), rows)

    def test_great_rows(self):
        whole = 0
        for t, u in great_pairs(1000):
            if value_of(u) < value_of(t):
                t, u = u, t
            whole += self.check_by_value(t, u).denominator == 1
        self.assertTrue(100 < whole < 900, whole)


class BothTheSame(SimplestCase):
    ROWS = (
        [0], [1], [-1], [TOP], [-TOP], [-1, 2], [0, 2], [4, 2, 6, 7], [0, TOP], [-TOP, TOP], [TOP] * 96,
        [0] + [1] * 94 + [2],
    )

    def test_equal_lists(self):
        for row in self.ROWS:
            self.check(row, list(row), row)

    def test_the_very_same_list(self):
        for row in self.ROWS:
            self.check(row, row, row)

    def test_small_rows(self):
        for row in small_rows(range(-3, 4), 4, 4):
            self.assertEqual(simplest(row, list(row)), [len(row)] + row)


class Beginnings(SimplestCase):
    MORE = ([2], [3], [TOP], [1, 2], [1, TOP], [5, 3, 1, 2])

    def test_that_end_at_an_even_place(self):
        for first in FIRSTS:
            for beginning in ([first], [first, 2, 6], [first, 1, 2], [first, 1, 1, 1, 2]):
                for more in self.MORE:
                    self.check(beginning, beginning + more, beginning)

    def test_that_end_at_an_odd_place(self):
        for first in FIRSTS:
            for beginning in ([first, 2], [first, TOP], [first, TOP, 1, 7]):
                for more in self.MORE:
                    self.check(beginning + more, beginning, beginning)

    def test_of_96_quotients(self):
        row = [-1] + [2] * 95
        for length in range(1, 96):
            self.check_either_way(row[:length], row, row[:length])


class Ends(SimplestCase):
    def test_lower_end_is_the_simplest(self):
        self.check([0, 2], [0, 1, 2], [0, 2])
        self.check([3, 2], [3, 1, 4], [3, 2])
        self.check([3], [3, 7], [3])
        self.check([3], [5, 2], [3])
        self.check([-1, 2], [-1, 1, 2], [-1, 2])
        self.check([4, 2, 6], [4, 2, 7, 3], [4, 2, 6])

    def test_upper_end_is_the_simplest(self):
        self.check([0, 3], [0, 2], [0, 2])
        self.check([3, 2, 5], [4], [4])
        self.check([-9, 2], [-3], [-3])
        self.check([-1, 3], [-1, 2], [-1, 2])
        self.check([4, 2, 6, 9], [4, 2, 6, 7], [4, 2, 6, 7])

    def test_minus_one_half(self):
        self.check([-1], [-1, 2], [-1])
        self.check([-1, 2], [0], [0])
        self.check([-1, 2], [-1, 1, 2], [-1, 2])
        self.check([-1, 3], [-1, 2], [-1, 2])
        self.check([-2, 2], [-1, 2], [-1])
        self.check([-1, 2, 5], [-1, 2], [-1, 2])
        self.check([-1, 2], [-1, 1, 1, 5], [-1, 2])
        self.check([-1, 2], [5], [0])

    def test_whole_numbers_as_both_ends(self):
        numbers = (-TOP, 1 - TOP, -93, -2, -1, 0, 1, 2, 93, TOP - 1, TOP)
        for low in numbers:
            for high in numbers:
                if low <= high:
                    self.check([low], [high], [low if low > 0 else high if high < 0 else 0])

    def test_whole_number_as_the_lower_end(self):
        self.check([3], [4, 2], [3])
        self.check([0], [0, 9], [0])
        self.check([0], [7, 2], [0])
        self.check([-3], [-1, 2], [-1])
        self.check([-3], [-3, 2], [-3])
        self.check([-3], [0, 2], [0])

    def test_whole_number_as_the_upper_end(self):
        self.check([3, 2], [4], [4])
        self.check([3, 2], [9], [4])
        self.check([-1, 9], [0], [0])
        self.check([-7, 2], [0], [0])
        self.check([-7, 2], [-2], [-2])
        self.check([-3, 2], [-2], [-2])


class OnePlaceApart(SimplestCase):
    def test_by_one_with_nothing_behind(self):
        for first in FIRSTS:
            self.check([first, 3], [first, 2], [first, 2])
            self.check([first, 2, 6], [first, 2, 7], [first, 2, 6])
            self.check([first, 1, 1, 8], [first, 1, 1, 7], [first, 1, 1, 7])
            self.check([first, 1, 1, 1, 2], [first, 1, 1, 1, 3], [first, 1, 1, 1, 2])

    def test_by_one_with_more_behind_the_lesser(self):
        for first in FIRSTS:
            for more in ([2], [1, 2], [TOP], [1, TOP, 3]):
                self.check([first, 3], [first, 2] + more, [first, 3])
                self.check([first, 2, 6] + more, [first, 2, 7], [first, 2, 7])

    def test_by_one_with_more_behind_the_greater(self):
        for first in FIRSTS:
            for more in ([2], [1, 2], [TOP], [1, TOP, 3]):
                self.check([first, 3] + more, [first, 2], [first, 2])
                self.check([first, 2, 6], [first, 2, 7] + more, [first, 2, 6])

    def test_by_one_with_more_behind_both(self):
        for first in FIRSTS:
            for more in ([2], [1, 2], [TOP], [1, TOP, 3]):
                self.check([first, 3] + more, [first, 2] + more, [first, 3])
                self.check([first, 2, 6] + more, [first, 2, 7] + more, [first, 2, 7])
        self.check([6, 2], [7, 2], [7])
        self.check([-7, 2], [-6, 2], [-6])

    def test_by_one_at_the_first_place(self):
        for more in ([2], [1, 2], [TOP], [1, TOP, 3]):
            self.check([6], [7] + more, [6])
            self.check([6] + more, [7], [7])
            self.check([-7], [-6] + more, [-6])
            self.check([-7] + more, [-6], [-6])
            self.check([0] + more, [1] + more, [1])
            self.check([-1] + more, [0] + more, [0])
            self.check([-1], [0] + more, [0])


class AOneAtTheEnd(SimplestCase):
    def test_a_one_with_more_behind_it_is_the_lesser(self):
        self.check([3, 2], [3, 1, 4], [3, 2])
        self.check([3, 9], [3, 1, 4], [3, 2])
        self.check([3, 9, 9], [3, 1, 1, 2], [3, 2])
        self.check([0, 4, 1, 2], [0, 4, 2], [0, 4, 2])
        self.check([0, 4, 1, 2], [0, 4, 9], [0, 4, 2])
        self.check([-1, TOP], [-1, 1, TOP], [-1, 2])

    def test_both_begin_with_a_one(self):
        self.check([3, 1, 2], [3, 1, 4], [3, 1, 2])
        self.check([3, 1, 2, 5], [3, 1, 4], [3, 1, 3])
        self.check([3, 1, 1, 2], [3, 1, 2], [3, 1, 2])

    def test_row_of_a_one_alone(self):
        self.check([0, 2], [1], [1])
        self.check([0, 1, TOP], [1], [1])
        self.check([1], [1, TOP], [1])
        self.check([0, 2], [1, 2], [1])


class LongAndGreat(SimplestCase):
    def test_96_quotients_that_differ_at_the_last_place_alone(self):
        for first in FIRSTS:
            for number in (1, 2, TOP):
                alike = [first] + [number] * 94
                self.check(alike + [3], alike + [2], alike + [2])
                self.check(alike + [TOP], alike + [TOP - 1], alike + [TOP - 1])
                self.check(alike + [TOP], alike + [2], alike + [2])

    def test_96_quotients_that_differ_at_one_place(self):
        for number in (1, 2, TOP - 1):
            row = [number] * 95 + [2]
            for place in range(95):
                other = row[:place] + [number + 1] + row[place + 1:]
                self.check_either_way(row, other, row[:place] + [number + 1])

    def test_96_quotients_and_fewer(self):
        row = [1] * 95 + [2]
        for place in range(1, 94):
            self.check_either_way(row, row[:place] + [5], row[:place] + [2])

    def test_values_beyond(self):
        self.check([TOP, 3], [TOP, 2], [TOP, 2])
        self.check([-TOP, 3], [-TOP, 2], [-TOP, 2])
        self.check([TOP - 1, 2], [TOP, 2], [TOP])
        self.check([-TOP, 2], [1 - TOP, 2], [1 - TOP])
        self.check([0, TOP, TOP], [0, TOP - 1, TOP], [0, TOP])
        self.check([0, TOP, TOP - 1, TOP], [0, TOP, TOP], [0, TOP, TOP])
        self.check([-TOP] + [TOP] * 95, [TOP] * 96, [0])
        self.assertEqual(value(simplest([TOP, 3], [TOP, 2])[1:]), [-75])

    def test_quotients_of_2_to_62(self):
        self.check([-TOP], [TOP], [0])
        self.check([-TOP], [-TOP, TOP], [-TOP])
        self.check([TOP], [TOP, TOP], [TOP])
        self.check([TOP - 1, TOP], [TOP], [TOP])
        self.check([-TOP, TOP], [1 - TOP], [1 - TOP])
        self.check([0, TOP], [0, TOP - 1], [0, TOP - 1])
        self.check([0, TOP], [0, TOP - 1, 2], [0, TOP])
        self.check([-1, TOP], [-1, 1, TOP - 1], [-1, 2])
        self.check([5, 2, TOP - 1, 2], [5, 2, TOP], [5, 2, TOP])
        self.check([-TOP, 5, TOP - 1, 2], [-TOP, 5, TOP, 2], [-TOP, 5, TOP])

    def test_q_of_2_to_62(self):
        self.check([0, TOP], [0, TOP], [0, TOP])
        self.check([-1, 1, TOP - 1], [0, TOP], [0])
        self.check([0, TOP, 2], [0, TOP], [0, TOP])
        self.check([0, 1, TOP - 1], [1], [1])

    def test_long_rows_are_gone_through_by_loops(self):
        row = [TOP] * 95
        self.assertEqual(called_with_little_depth(simplest, row + [3], row + [2]), [96] + row + [2])


class TurnedRound(SimplestCase):
    def check_turned(self, t, u):
        self.assertEqual(simplest(t, u), [-33], (t, u))

    def test_ordinary_rows(self):
        self.check_turned([4], [3])
        self.check_turned([4], [3, 7])
        self.check_turned([3, 7], [3])
        self.check_turned([3, 7], [3, 8])
        self.check_turned([0], [-1, 2])
        self.check_turned([0, 2], [-1, 2])
        self.check_turned([-1, 2], [-1, 3])
        self.check_turned([4, 2, 7], [4, 2, 6])
        self.check_turned([TOP], [-TOP])
        self.check_turned([TOP, TOP], [TOP])

    def test_beginnings(self):
        self.check_turned([3, 7], [3, 7, 16])
        self.check_turned([3, 7, 16], [3])
        self.check_turned([3, 7, 16, 5], [3, 7, 16])

    def test_only_the_last_of_many_says_so(self):
        for number in (1, 2, TOP):
            for first in FIRSTS:
                row = [first] + [number] * 94
                self.check_turned(row + [2], row + [3])
                self.check_turned(row + [TOP - 1], row + [TOP])
                self.check_turned(row[:94] + [3], row[:94] + [2])
                self.check_turned(row[:94] + [TOP], row[:94] + [TOP - 1])

    def test_just_where_less_answers_2(self):
        rows = small_rows(range(-1, 2), 3, 4)
        for t in rows:
            for u in rows:
                self.assertEqual(simplest(t, u) == [-33], less(t, u) == [2], (t, u))


class NoRows(PairRefusals, unittest.TestCase):
    call = staticmethod(simplest)

    def test_no_row_goes_ahead_of_turned_round(self):
        for number in (0, -1, -TOP, LEAST_NUMBER, TOP + 1, GREATEST_NUMBER):
            self.check_refused([2, 2, number, 2], [1])
            self.check_refused([2, 2, number], [1, 5, 5])
            self.check_refused([1, 2, 5, number], [1, 3, 5, 7])
            self.check_refused([2] * 95 + [number], [1])
        self.check_refused([2, 2, 1], [1])
        self.check_refused([1, 2, 5, 1], [1, 3, 5, 7])
        self.check_refused([2] * 97, [1])
        self.check_refused([2] * 100, [0, 2])
        self.check_refused([TOP + 1], [0])

    def test_fault_behind_what_the_answer_needs(self):
        self.check_refused([1, 2, 0], [5, 3, 2])
        self.check_refused([1, 2, 2], [5, 3, 1])
        self.check_refused([3], [3, 2, 0, 2])


class EachCallByItself(PairCalls, unittest.TestCase):
    call = staticmethod(simplest)
    PAIRS = (
        ([4, 2, 6, 7], [4, 2, 6, 5]), ([4, 2, 6, 8], [4, 2, 6, 5]), ([4, 2, 6, 7], [4, 2, 6, 7]), ([-1, 2], [0]),
        ([3], [3, 2]), ([3, 2, 5], [3, 2]), ([-9, 2], [-3, 2]), ([], [1]), ([1], [1, 1]), ([3, 0, 2], [3]),
        ([5], [3]), ([TOP] * 96, [TOP] * 96), ([TOP] * 95, [TOP] * 96), ([2] * 97, [2] * 96), ([5], [LEAST_NUMBER]),
    )


if __name__ == "__main__":
    unittest.main()
