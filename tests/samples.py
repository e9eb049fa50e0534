"""What several tests need: the ends of the ranges, numbers to try, a slow reckoning and ways to call."""

import contextlib
import inspect
import io
import itertools
import sys
from fractions import Fraction

TOP = 2 ** 62
LEAST_NUMBER = -9223372036854775808
GREATEST_NUMBER = 9223372036854775807


def value_of(row):
    value = Fraction(row[-1])
    for quotient in reversed(row[:-1]):
        value = quotient + 1 / value
    return value


def neighbours():
    """The pairs of neighbours in 1, 1, 2, 3, 5, 8, ... that are at most 2^62."""
    pairs = []
    lesser, greater = 1, 1
    while greater <= TOP:
        pairs.append((lesser, greater))
        lesser, greater = greater, lesser + greater
    return pairs


def spread_numbers(count):
    """Numbers from 0 to 2^64 - 1, the same ones on every run."""
    numbers = []
    state = 1
    for _ in range(count):
        state = (state * 6364136223846793005 + 1442695040888963407) % 2 ** 64
        numbers.append(state)
    return numbers


def small_rows(firsts, greatest, longest):
    """Each row that begins with one of the firsts, with at most so many quotients, none above the greatest."""
    rows = []
    for length in range(longest):
        for behind in itertools.product(range(1, greatest + 1), repeat=length):
            if length == 0 or behind[-1] > 1:
                rows.extend([first, *behind] for first in firsts)
    return rows


def row_with_end(first, behind):
    """A row of these quotients, with a 2 in the place of a 1 at the end."""
    return [first, *behind[:-1], max(behind[-1], 2)] if behind else [first]


def great_row(numbers):
    """A row of 1 to 96 quotients, short or long and small or great as the numbers tell."""
    longest = (2, 9, 96)[numbers[0] // 2 ** 40 % 3]
    greatest = 2 ** (1 + numbers[0] // 2 ** 20 % 62)
    first = numbers[1] // 4 % (2 * greatest + 1) - greatest
    length = numbers[2] // 2 ** 30 % longest
    return row_with_end(first, [1 + number // 4 % greatest for number in numbers[3:3 + length]])


def great_pairs(count):
    """Pairs of rows, of which the second one begins like the first one up to any place."""
    pairs = []
    numbers = spread_numbers(200 * count)
    for start in range(0, len(numbers), 200):
        t = great_row(numbers[start:start + 100])
        u = great_row(numbers[start + 100:start + 200])
        place = numbers[start] // 2 ** 10 % (len(t) + 1)
        if place > 0:
            # Behind the first place a quotient is 1 or more.
            u = (t[:place] + [max(abs(u[0]), 1)] + u[1:])[:96]
        pairs.append((t, row_with_end(u[0], u[1:])))
    return pairs


# Each breaks one rule of what a row of quotients is, or several.
NO_ROWS = (
    [], [2] * 97, [0] + [1] * 96 + [2], [TOP] * 98, [2] * 99, [2] * 100,
    [3, 0], [3, 0, 2], [3, 2, 0], [3, -1], [3, -2, 2], [3, 2, -2], [3, -TOP, 2], [3, 2, LEAST_NUMBER],
    [1] * 50 + [0] + [1] * 44 + [2], [1] * 95 + [0], [1] * 95 + [-2],
    [0, 1], [3, 1], [-1, 1], [3, 2, 1], [1, 1, 1], [2] * 95 + [1],
    [TOP + 1], [-TOP - 1], [GREATEST_NUMBER], [LEAST_NUMBER], [TOP + 1, 2], [-TOP - 1, 2], [LEAST_NUMBER, 2, 3],
    [3, TOP + 1, 2], [3, GREATEST_NUMBER, 2], [3, 2, TOP + 1], [3, GREATEST_NUMBER], [2] * 95 + [TOP + 1],
    [LEAST_NUMBER, GREATEST_NUMBER], [GREATEST_NUMBER] * 100,
)


def called_with_little_depth(function, *arguments):
    """The answer of a call that may not nest more than some 30 calls."""
    limit = sys.getrecursionlimit()
    sys.setrecursionlimit(len(inspect.stack()) + 30)
    try:
        return function(*arguments)
    finally:
        sys.setrecursionlimit(limit)


def printed_by(function, *arguments):
    """What a call prints."""
    printed = io.StringIO()
    with contextlib.redirect_stdout(printed), contextlib.redirect_stderr(printed):
        function(*arguments)
    return printed.getvalue()


def refuse_change(self, *arguments):
    raise AssertionError("a list that was handed in is changed")


class Unchanging(list):
    """A list that can't be changed, not for a while either."""

    append = clear = extend = insert = pop = remove = reverse = sort = refuse_change
    __setitem__ = __delitem__ = __iadd__ = __imul__ = refuse_change


class PairCalls:
    """What holds of every function of two rows; to be joined to a TestCase that has call, the function, and PAIRS."""

    def test_what_is_handed_in_stays(self):
        for t, u in self.PAIRS:
            first, second = list(t), list(u)
            answer = self.call(first, second)
            self.assertIsNot(answer, first)
            self.assertIsNot(answer, second)
            answer.append(5)
            answer[0] = 77
            self.assertEqual((first, second), (t, u))

    def test_what_is_handed_in_stays_all_the_while(self):
        for t, u in self.PAIRS:
            answer = self.call(Unchanging(t), Unchanging(u))
            self.assertEqual(answer, self.call(t, u))
            self.assertIs(type(answer), list)

    def test_a_changed_answer_changes_no_later_one(self):
        for t, u in self.PAIRS:
            answer = self.call(t, u)
            expected = list(answer)
            answer.append(5)
            answer[0] = 77
            self.assertEqual(self.call(t, u), expected)

    def test_order_of_calls_does_not_matter(self):
        forwards = [self.call(t, u) for t, u in self.PAIRS]
        backwards = [self.call(t, u) for t, u in reversed(self.PAIRS)]
        self.assertEqual(forwards, backwards[::-1])

    def test_nothing_is_printed(self):
        for t, u in self.PAIRS:
            self.assertEqual(printed_by(self.call, t, u), "")


class PairRefusals:
    """That a function of two rows refuses what is no row; to be joined to a TestCase that has call, the function."""

    ROWS = ([0], [3], [-1, 2], [4, 2, 6, 7], [TOP], [-TOP], [3, 2], [TOP] * 96, [1] * 95 + [2])

    def check_refused(self, t, u):
        self.assertEqual(self.call(t, u), [-22], (t, u))
        self.assertEqual(self.call(u, t), [-22], (u, t))

    def test_fault_in_the_first_or_the_second(self):
        for faulty in NO_ROWS:
            for row in self.ROWS:
                self.check_refused(faulty, row)

    def test_fault_in_both(self):
        for faulty in NO_ROWS:
            self.check_refused(faulty, faulty)
            for other in NO_ROWS:
                self.check_refused(faulty, other)
