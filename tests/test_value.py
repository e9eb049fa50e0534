"""Point 2 of the document: the fraction that a row of quotients has as its value."""

import itertools
import unittest
from fractions import Fraction
from math import gcd

from quotientrows.fractions import of, value
from tests.samples import (
    GREATEST_NUMBER, LEAST_NUMBER, TOP, Unchanging, called_with_little_depth, neighbours, printed_by,
    spread_numbers, value_of,
)

HALF = 2 ** 61


class ValueCase(unittest.TestCase):
    def check(self, row):
        """That the answer is what the slow reckoning asks; gives back the answer."""
        answer = value(row)
        self.assertIs(type(answer), list)
        for number in answer:
            self.assertIs(type(number), int)
        fraction = value_of(row)
        p, q = fraction.numerator, fraction.denominator
        self.assertEqual(answer, [-75] if abs(p) > TOP or q > TOP else [0, p, q], row)
        return answer

    def check_all(self, expected, rows):
        for row in rows:
            self.assertEqual(value(row), expected, row)


class OrdinaryRows(ValueCase):
    def test_first_above_zero(self):
        self.assertEqual(value([4, 2, 6, 7]), [0, 415, 93])
        self.assertEqual(value([3, 7, 16]), [0, 355, 113])
        self.assertEqual(value([1, 2]), [0, 3, 2])
        self.assertEqual(value([2, 1, 2]), [0, 8, 3])

    def test_first_zero(self):
        self.assertEqual(value([0, 4, 2, 6, 7]), [0, 93, 415])
        self.assertEqual(value([0, 2]), [0, 1, 2])
        self.assertEqual(value([0, 1, 2]), [0, 2, 3])

    def test_first_below_zero(self):
        self.assertEqual(value([-5, 1, 1, 6, 7]), [0, -415, 93])
        self.assertEqual(value([-3, 1, 2]), [0, -7, 3])
        self.assertEqual(value([-1, 3]), [0, -2, 3])
        self.assertEqual(value([-1, 1, 2]), [0, -1, 3])
        self.assertEqual(value([-2, 2]), [0, -3, 2])

    def test_each_small_row_is_one_fractions(self):
        row_of_fraction = {}
        for length in range(5):
            for behind in itertools.product(range(1, 6), repeat=length):
                if length > 0 and behind[-1] == 1:
                    continue
                for first in range(-4, 5):
                    row = [first, *behind]
                    self.assertEqual(self.check(row)[0], 0)
                    self.assertEqual(row_of_fraction.setdefault(value_of(row), row), row)

    def test_great_rows(self):
        numbers = spread_numbers(20000)
        answers = {0: 0, -75: 0}
        for start in range(0, len(numbers), 10):
            length = 1 + numbers[start] // 1000003 % 9
            bits = 1 + numbers[start] // 7 % 62
            row = [1 + number // 4 % 2 ** bits for number in numbers[start + 1:start + 1 + length]]
            row[0] *= (-1) ** (numbers[start] // 2 ** 40 % 2)
            if length > 1:
                row[-1] = max(row[-1], 2)
            answers[self.check(row)[0]] += 1
        self.assertTrue(min(answers.values()) > 300, answers)


class BackFromOf(ValueCase):
    def check_back(self, p, q):
        divisor = gcd(p, q)
        self.assertEqual(value(of(p, q)[1:]), [0, p // divisor, q // divisor], (p, q))

    def test_small_fractions(self):
        for q in range(1, 61):
            for p in range(-130, 131):
                self.check_back(p, q)

    def test_great_fractions(self):
        numbers = spread_numbers(4000)
        for upper, lower in zip(numbers[::2], numbers[1::2]):
            q = lower % TOP + 1
            self.check_back(upper % (2 * TOP + 1) - TOP, q)
            self.check_back(upper % q, q)
            self.check_back(upper % (2 * TOP + 1) - TOP, lower % 1000003 + 1)

    def test_ends_of_the_range(self):
        ends = (1, 2, 3, HALF - 1, HALF, HALF + 1, TOP - 2, TOP - 1, TOP)
        for p, q in itertools.product((0,) + ends, ends):
            self.check_back(p, q)
            self.check_back(-p, q)

    def test_neighbours(self):
        for lesser, greater in neighbours():
            for p, q in ((lesser, greater), (greater, lesser)):
                self.check_back(p, q)
                self.check_back(-p, q)

    def test_and_from_value_to_the_same_row(self):
        for row in ([0], [1], [-1], [-1, 2], [4, 2, 6, 7], [0, TOP], [-1, 1, TOP - 1], [0] + [1] * 87 + [2]):
            zero, p, q = value(row)
            self.assertEqual(of(p, q), [len(row)] + row)


class Edges(ValueCase):
    def test_one_number(self):
        for number in (0, 1, -1, 2, -2, 93, -93, TOP - 1, 1 - TOP, TOP, -TOP):
            self.assertEqual(value([number]), [0, number, 1])

    def test_minus_one_half(self):
        self.assertEqual(value([-1, 2]), [0, -1, 2])

    def test_a_one_at_the_end(self):
        self.assertEqual(value([1]), [0, 1, 1])
        self.check_all([-22], ([0, 1], [1, 1], [-1, 1], [4, 2, 6, 6, 1], [1, 1, 1], [0] + [1] * 95))

    def test_a_one_ahead_of_the_end(self):
        self.assertEqual(value([1, 2]), [0, 3, 2])
        self.assertEqual(value([1, 1, 2]), [0, 5, 3])

    def test_p_just_at_the_end_of_the_range(self):
        self.assertEqual(value([TOP]), [0, TOP, 1])
        self.assertEqual(value([-TOP]), [0, -TOP, 1])
        self.assertEqual(value([1537228672809129301, 3]), [0, TOP, 3])
        self.assertEqual(value([-1537228672809129302, 1, 2]), [0, -TOP, 3])
        self.assertEqual(value([1, TOP - 1]), [0, TOP, TOP - 1])
        self.assertEqual(value([-2, 1, TOP - 2]), [0, -TOP, TOP - 1])

    def test_q_just_at_the_end_of_the_range(self):
        self.assertEqual(value([0, TOP]), [0, 1, TOP])
        self.assertEqual(value([-1, 1, TOP - 1]), [0, -1, TOP])
        self.assertEqual(value([0, 1, TOP - 1]), [0, TOP - 1, TOP])
        self.assertEqual(value([-1, TOP]), [0, 1 - TOP, TOP])

    def test_longest_row_with_an_answer(self):
        lesser, greater = neighbours()[-1]
        ones = [1] * 87
        self.assertEqual(value([0] + ones + [2]), [0, lesser, greater])
        self.assertEqual(value([-1] + ones + [2]), [0, lesser - greater, greater])
        self.assertEqual(value([0] + ones + [1, 2]), [-75])
        self.assertEqual(value([-1] + ones + [1, 2]), [-75])

    def test_96_quotients(self):
        # The least q of such a row is above 2^62, so it is a row, but beyond.
        self.check_all([-75], ([first] + [1] * 94 + [2] for first in (-TOP, -2, -1, 0, 1, 2, TOP)))
        self.check_all([-75], ([first] + [TOP] * 95 for first in (-TOP, -1, 0, 1, TOP)))

    def test_long_rows_are_gone_through_by_loops(self):
        self.assertEqual(called_with_little_depth(value, [TOP] * 96), [-75])
        self.assertEqual(called_with_little_depth(value, [0] + [1] * 87 + [2])[0], 0)


class NoRows(ValueCase):
    def test_empty(self):
        self.assertEqual(value([]), [-22])

    def test_more_than_96_numbers(self):
        for length in (97, 98, 99, 100):
            for number in (1, 2, TOP):
                self.assertEqual(value([0] + [number] * (length - 2) + [2]), [-22], (length, number))

    def test_zero_or_below_behind_the_first(self):
        for number in (0, -1, -2, -93, -TOP, -TOP - 1, LEAST_NUMBER):
            self.check_all([-22], (
                [3, number], [3, number, 2], [3, 2, number], [3, 2, number, 2], [0, number], [number, number],
                [1] * 50 + [number] + [1] * 44 + [2], [1] * 95 + [number],
            ))

    def test_above_2_to_62_in_size(self):
        for number in (TOP + 1, GREATEST_NUMBER):
            self.check_all([-22], (
                [number], [number, 2], [number, 2, 3], [3, number, 2], [0, number], [3, 2, number], [number, number],
            ))
        for number in (-TOP - 1, LEAST_NUMBER):
            self.check_all([-22], ([number], [number, 2], [number, 2, 3]))

    def test_no_row_goes_ahead_of_beyond(self):
        self.check_all([-22], (
            [TOP] * 97, [TOP] * 100, [TOP] * 95 + [1], [TOP, TOP, 0], [TOP, TOP, 0, TOP], [TOP, TOP, -1, TOP],
            [TOP + 1, TOP, TOP], [-TOP - 1, TOP, TOP], [TOP, TOP + 1, TOP], [TOP, TOP, TOP + 1], [HALF, 1, 1],
            [TOP, TOP, 1], [-TOP, TOP, 1], [LEAST_NUMBER, GREATEST_NUMBER], [GREATEST_NUMBER] * 96,
        ))


class Beyond(ValueCase):
    def test_p_above(self):
        self.assertEqual(value_of([HALF, 2]), Fraction(TOP + 1, 2))
        self.assertEqual(value_of([1, TOP]), Fraction(TOP + 1, TOP))
        self.check_all([-75], ([HALF, 2], [1, TOP], [TOP, 2], [TOP, TOP], [2, TOP]))

    def test_p_below(self):
        self.assertEqual(value_of([-HALF - 1, 2]), Fraction(-TOP - 1, 2))
        self.assertEqual(value_of([-2, 1, TOP - 1]), Fraction(-TOP - 1, TOP))
        self.check_all([-75], ([-HALF - 1, 2], [-2, 1, TOP - 1], [-TOP, 2], [-TOP, TOP], [-2, TOP]))

    def test_q_above(self):
        self.assertEqual(value_of([0, HALF, 2]), Fraction(2, TOP + 1))
        self.assertEqual(value_of([-1, 1, TOP]), Fraction(-1, TOP + 1))
        self.assertEqual(value_of([0, 1, TOP]), Fraction(TOP, TOP + 1))
        self.assertEqual(value_of([-1, HALF, 2]), Fraction(1 - TOP, TOP + 1))
        self.check_all([-75], ([0, HALF, 2], [-1, 1, TOP], [0, 1, TOP], [-1, HALF, 2], [0, TOP, TOP]))

    def test_many_great_quotients(self):
        for length in range(3, 97):
            for first in (-TOP, -1, 0, 1, TOP):
                self.assertEqual(value([first] + [TOP] * (length - 1)), [-75], (first, length))
                self.assertEqual(value([first] + [HALF - 1] * (length - 1)), [-75], (first, length))


class EachCallByItself(ValueCase):
    ROWS = (
        [4, 2, 6, 7], [-1, 2], [0], [], [1, 1], [3, 0, 2], [HALF, 2], [0, HALF, 2], [TOP] * 96, [2] * 97,
        [0] + [1] * 87 + [2], [LEAST_NUMBER], [TOP, TOP + 1],
    )

    def test_what_is_handed_in_stays(self):
        for row in self.ROWS:
            handed_in = list(row)
            answer = value(handed_in)
            self.assertEqual(handed_in, row)
            self.assertIsNot(answer, handed_in)

    def test_what_is_handed_in_stays_all_the_while(self):
        for row in self.ROWS:
            self.assertEqual(value(Unchanging(row)), value(row))

    def test_a_changed_answer_changes_no_later_one(self):
        for row in self.ROWS:
            answer = value(row)
            expected = list(answer)
            answer.append(5)
            answer[0] = 77
            self.assertEqual(value(row), expected)

    def test_order_of_calls_does_not_matter(self):
        forwards = [value(row) for row in self.ROWS]
        backwards = [value(row) for row in reversed(self.ROWS)]
        self.assertEqual(forwards, backwards[::-1])

    def test_nothing_is_printed(self):
        for row in self.ROWS:
            self.assertEqual(printed_by(value, row), "")


if __name__ == "__main__":
    unittest.main()
