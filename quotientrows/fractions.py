"""Rows of quotients: made of fractions, read, compared, and the simplest fraction between two."""

# 2^62, written out because a file's top holds plain values alone.
LARGEST = 4611686018427387904

MOST_QUOTIENTS = 96

REFUSED = -22
TURNED_ROUND = -33
BEYOND = -75


def of(p, q):
    """Give back how many quotients the row of p / q has, then these, or the refusal alone."""
    if abs(p) > LARGEST or q < 1 or q > LARGEST:
        return [REFUSED]
    row = quotients(p, q)
    return [len(row)] + row


def quotients(p, q):
    """Give back the row of p / q, in lowest terms or not; q is 1 or more."""
    row = []
    upper = p
    lower = q
    # What is left is from 0 to lower - 1, for p below 0 too, as // rounds down.
    # So each quotient behind the first is 1 or more, and the last of them,
    # which leaves nothing of a greater number, is 2 or more.
    while lower > 0:
        row.append(upper // lower)
        left = upper % lower
        upper = lower
        lower = left
    return row


def value(t):
    """Give back 0, then p and q of the row's value in lowest terms, or the refusal alone."""
    if not is_row(t):
        return [REFUSED]
    fraction = fraction_of(t)
    if abs(fraction[0]) > LARGEST or fraction[1] > LARGEST:
        return [BEYOND]
    return [0] + fraction


def is_row(t):
    """Tell whether t is a row of quotients."""
    if len(t) < 1 or len(t) > MOST_QUOTIENTS:
        return False
    if abs(t[0]) > LARGEST:
        return False
    for quotient in t[1:]:
        if quotient < 1 or quotient > LARGEST:
            return False
    return len(t) == 1 or t[-1] > 1


def fraction_of(row):
    """Give back p and q of the value of a row of quotients, however great they are."""
    upper = row[-1]
    lower = 1
    # A step takes upper / lower to quotient + lower / upper. A divisor of both new
    # numbers divides both old ones, so the terms stay the lowest; and the new lower
    # number is above 0, as each quotient behind the first is.
    for quotient in reversed(row[:-1]):
        behind = upper
        upper = quotient * upper + lower
        lower = behind
    return [upper, lower]


def less(t, u):
    """Give back 1 if the value of row t is less, 2 if that of u is, 0 if they're the same, or the refusal."""
    if not is_row(t) or not is_row(u):
        return [REFUSED]
    return [order_of(t, u)]


def order_of(t, u):
    """Give back 1, 2 or 0, as less does, for two rows of quotients."""
    place = alike(t, u)
    if place == len(t) and place == len(u):
        return 0
    # A row that ends goes on as if with what is above all, so the lesser quotient is the other's.
    lesser_in_t = place == len(u) or place < len(t) and t[place] < u[place]
    # What stands at an odd place divides, so there the lesser quotient makes the greater value.
    at_even_place = place % 2 == 0
    return 1 if lesser_in_t == at_even_place else 2


def alike(t, u):
    """Give back how many quotients two rows begin with alike."""
    place = 0
    while place < len(t) and place < len(u) and t[place] == u[place]:
        place += 1
    return place


def simplest(t, u):
    """Give back how many quotients the simplest fraction from t's value to u's has, then these, or the refusal."""
    if not is_row(t) or not is_row(u):
        return [REFUSED]
    if order_of(t, u) == 2:
        return [TURNED_ROUND]
    row = simplest_row(t, u)
    return [len(row)] + row


def simplest_row(t, u):
    """Give back the row of the simplest fraction from the value of row t to that of u, which is no less."""
    place = alike(t, u)
    row = t[:place]
    # A row that is the other's beginning is an end itself, and whatever else lies between goes on behind it.
    if place < len(t) and place < len(u):
        row.append(quotient_between(t, u, place))
    return row


def quotient_between(t, u, place):
    """Give back the last quotient of the simplest fraction between two rows that first differ at this place."""
    lesser = u if u[place] < t[place] else t
    least = lesser[place]
    # With more behind it, the lesser quotient by itself would lie outside, but the next one doesn't,
    # as the other row has that one or more. It is 2 or more behind the first place: a 1 never ends a row.
    if len(lesser) > place + 1:
        least += 1
    most = max(t[place], u[place])
    # Of several, the one that is least in size is the simplest: 0 itself, or the one next to it.
    return max(least, min(0, most))
