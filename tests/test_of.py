"""Point 1 of the document: the row of quotients of p / q."""

import unittest
from fractions import Fraction

from quotientrows.fractions import of
from tests.samples import (
    GREATEST_NUMBER, LEAST_NUMBER, TOP, called_with_little_depth, neighbours, printed_by, spread_numbers, value_of,
)


class OfCase(unittest.TestCase):
    def check(self, p, q):
        """That the answer is a row of quotients with the value p / q; gives back the row."""
        answer = of(p, q)
        self.assertIs(type(answer), list)
        for number in answer:
            self.assertIs(type(number), int)
        row = answer[1:]
        self.assertEqual(answer[0], len(row))
        self.assertTrue(1 <= len(row) <= 96, (p, q))
        self.assertTrue(all(abs(quotient) <= TOP for quotient in row), (p, q))
        self.assertTrue(all(quotient >= 1 for quotient in row[1:]), (p, q))
        self.assertTrue(len(row) == 1 or row[-1] >= 2, (p, q))
        self.assertEqual(value_of(row), Fraction(p, q))
        return row


class OrdinaryFractions(OfCase):
    def test_above_zero(self):
        self.assertEqual(of(415, 93), [4, 4, 2, 6, 7])
        self.assertEqual(of(93, 415), [5, 0, 4, 2, 6, 7])
        self.assertEqual(of(355, 113), [3, 3, 7, 16])
        self.assertEqual(of(1, 2), [2, 0, 2])
        self.assertEqual(of(2, 3), [3, 0, 1, 2])
        self.assertEqual(of(3, 2), [2, 1, 2])

    def test_below_zero(self):
        self.assertEqual(of(-415, 93), [5, -5, 1, 1, 6, 7])
        self.assertEqual(of(-7, 3), [3, -3, 1, 2])
        self.assertEqual(of(-2, 3), [2, -1, 3])
        self.assertEqual(of(-1, 3), [3, -1, 1, 2])
        self.assertEqual(of(-3, 2), [2, -2, 2])

    def test_not_in_lowest_terms(self):
        self.assertEqual(of(830, 186), [4, 4, 2, 6, 7])
        self.assertEqual(of(-830, 186), [5, -5, 1, 1, 6, 7])
        self.assertEqual(of(6, 4), [2, 1, 2])
        self.assertEqual(of(-6, 12), [2, -1, 2])
        self.assertEqual(of(2 ** 61, TOP), [2, 0, 2])

    def test_small_fractions_have_just_one_row_each(self):
        fraction_of_row = {}
        row_of_fraction = {}
        for q in range(1, 61):
            for p in range(-130, 131):
                row = tuple(self.check(p, q))
                fraction = Fraction(p, q)
                self.assertEqual(fraction_of_row.setdefault(row, fraction), fraction)
                self.assertEqual(row_of_fraction.setdefault(fraction, row), row)

    def test_a_common_divisor_changes_nothing(self):
        for p, q in ((415, 93), (-415, 93), (1, 2), (-1, 2), (0, 1), (7, 1), (-7, 1)):
            for factor in (2, 3, 12, 1000003, 2 ** 50):
                self.assertEqual(of(p * factor, q * factor), of(p, q))

    def test_great_fractions(self):
        numbers = spread_numbers(4000)
        for upper, lower in zip(numbers[::2], numbers[1::2]):
            q = lower % TOP + 1
            self.check(upper % (2 * TOP + 1) - TOP, q)
            self.check(upper % q, q)
            self.check(upper % 1000003 - 500000, q)
            self.check(upper % (2 * TOP + 1) - TOP, lower % 1000003 + 1)


class Edges(OfCase):
    def test_zero(self):
        for q in (1, 2, 5, 93, TOP - 1, TOP):
            self.assertEqual(of(0, q), [1, 0])

    def test_q_is_one(self):
        for p in (1, -1, 2, -2, 93, -93, TOP - 1, 1 - TOP, TOP, -TOP):
            self.assertEqual(of(p, 1), [1, p])

    def test_p_is_a_multiple_of_q(self):
        self.assertEqual(of(12, 4), [1, 3])
        self.assertEqual(of(-12, 4), [1, -3])
        self.assertEqual(of(93, 93), [1, 1])
        self.assertEqual(of(-93, 93), [1, -1])
        self.assertEqual(of(TOP, 2), [1, 2 ** 61])
        self.assertEqual(of(-TOP, 2 ** 61), [1, -2])

    def test_greatest_q(self):
        self.assertEqual(of(1, TOP), [2, 0, TOP])
        self.assertEqual(of(-1, TOP), [3, -1, 1, TOP - 1])
        self.assertEqual(of(TOP - 1, TOP), [3, 0, 1, TOP - 1])
        self.assertEqual(of(1 - TOP, TOP), [2, -1, TOP])
        self.assertEqual(of(TOP, TOP), [1, 1])
        self.assertEqual(of(-TOP, TOP), [1, -1])

    def test_greatest_and_least_p(self):
        self.assertEqual(of(TOP, 3), [2, 1537228672809129301, 3])
        self.assertEqual(of(-TOP, 3), [3, -1537228672809129302, 1, 2])
        self.assertEqual(of(TOP, TOP - 1), [2, 1, TOP - 1])
        self.assertEqual(of(-TOP, TOP - 1), [3, -2, 1, TOP - 2])

    def test_minus_one_half(self):
        self.assertEqual(of(-1, 2), [2, -1, 2])

    def test_a_one_never_stands_at_the_end(self):
        for q in range(2, 200):
            self.assertEqual(of(q + 1, q), [2, 1, q])
            self.assertEqual(of(1 - q, q), [2, -1, q])

    def test_a_lone_quotient_may_be_anything(self):
        for p in range(-3, 4):
            self.assertEqual(of(5 * p, 5), [1, p])


class MostQuotients(OfCase):
    def test_greatest_neighbours(self):
        lesser, greater = neighbours()[-1]
        self.assertEqual((lesser, greater), (1779979416004714189, 2880067194370816120))
        ones = [1] * 87
        self.assertEqual(of(lesser, greater), [89, 0] + ones + [2])
        self.assertEqual(of(lesser - greater, greater), [89, -1] + ones + [2])
        self.assertEqual(of(greater, lesser), [88] + ones + [2])
        self.assertEqual(of(-lesser, greater), [88, -1, 2] + [1] * 85 + [2])
        self.assertEqual(of(-greater, lesser), [87, -2, 2] + [1] * 84 + [2])

    def test_all_neighbours(self):
        for lesser, greater in neighbours():
            for p, q in ((lesser, greater), (greater, lesser)):
                self.check(p, q)
                self.check(-p, q)

    def test_long_rows_are_gone_through_by_loops(self):
        lesser, greater = neighbours()[-1]
        answer = called_with_little_depth(of, lesser, greater)
        self.assertEqual(answer[0], 89)


class Refusals(unittest.TestCase):
    def test_p_too_great_in_size(self):
        for p in (TOP + 1, -TOP - 1, LEAST_NUMBER, GREATEST_NUMBER):
            for q in (1, 2, 93, TOP):
                self.assertEqual(of(p, q), [-22], (p, q))

    def test_q_out_of_range(self):
        for q in (0, -1, -2, -93, -TOP, -TOP - 1, TOP + 1, LEAST_NUMBER, GREATEST_NUMBER):
            for p in (0, 1, -1, 93, TOP, -TOP):
                self.assertEqual(of(p, q), [-22], (p, q))

    def test_both_out_of_range(self):
        for p in (TOP + 1, -TOP - 1, LEAST_NUMBER, GREATEST_NUMBER):
            for q in (0, -1, TOP + 1, LEAST_NUMBER, GREATEST_NUMBER):
                self.assertEqual(of(p, q), [-22], (p, q))

    def test_equal_to_an_allowed_fraction_but_out_of_range(self):
        self.assertEqual(of(TOP + 2, TOP + 2), [-22])
        self.assertEqual(of(-1, -2), [-22])
        self.assertEqual(of(1, -2), [-22])


class EachCallByItself(unittest.TestCase):
    def test_a_changed_answer_changes_no_later_one(self):
        for p, q, expected in ((415, 93, [4, 4, 2, 6, 7]), (0, 1, [1, 0]), (1, 0, [-22])):
            answer = of(p, q)
            answer.append(5)
            answer[0] = 77
            self.assertEqual(of(p, q), expected)

    def test_order_of_calls_does_not_matter(self):
        pairs = [(415, 93), (1, 0), (-1, 2), (TOP + 1, 1), (0, 7), (93, 415)]
        forwards = [of(p, q) for p, q in pairs]
        backwards = [of(p, q) for p, q in reversed(pairs)]
        self.assertEqual(forwards, backwards[::-1])

    def test_nothing_is_printed(self):
        self.assertEqual(printed_by(of, 415, 93), "")
        self.assertEqual(printed_by(of, 1, 0), "")


if __name__ == "__main__":
    unittest.main()
