"""What several tests need: the ends of the ranges, numbers to try, a slow reckoning and ways to call."""

import contextlib
import inspect
import io
import sys
from fractions import Fraction

TOP = 2 ** 62
LEAST_NUMBER = -9223372036854775808
GREATEST_NUMBER = 9223372036854775807


def value_of(row):
    value = Fraction(row[-1])
    for quotient in reversed(row[:-1]):
        value = quotient + 1 / value
    return value


def neighbours():
    """The pairs of neighbours in 1, 1, 2, 3, 5, 8, ... that are at most 2^62."""
    pairs = []
    lesser, greater = 1, 1
    while greater <= TOP:
        pairs.append((lesser, greater))
        lesser, greater = greater, lesser + greater
    return pairs


def spread_numbers(count):
    """Numbers from 0 to 2^64 - 1, the same ones on every run."""
    numbers = []
    state = 1
    for _ in range(count):
        state = (state * 6364136223846793005 + 1442695040888963407) % 2 ** 64
        numbers.append(state)
    return numbers


def called_with_little_depth(function, *arguments):
    """The answer of a call that may not nest more than some 30 calls."""
    limit = sys.getrecursionlimit()
    sys.setrecursionlimit(len(inspect.stack()) + 30)
    try:
        return function(*arguments)
    finally:
        sys.setrecursionlimit(limit)


def printed_by(function, *arguments):
    """What a call prints."""
    printed = io.StringIO()
    with contextlib.redirect_stdout(printed), contextlib.redirect_stderr(printed):
        function(*arguments)
    return printed.getvalue()


def refuse_change(self, *arguments):
    raise AssertionError("a list that was handed in is changed")


class Unchanging(list):
    """A list that can't be changed, not for a while either."""

    append = clear = extend = insert = pop = remove = reverse = sort = refuse_change
    __setitem__ = __delitem__ = __iadd__ = __imul__ = refuse_change
