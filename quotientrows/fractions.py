"""Rows of quotients: how a fraction is made into one and read from one, and how two are compared."""

# 2^62, written out because a file's top holds plain values alone.
LARGEST = 4611686018427387904

MOST_QUOTIENTS = 96

REFUSED = -22
BEYOND = -75


def of(p, q):
    """Give back how many quotients the row of p / q has, then these, or the refusal alone."""
    if abs(p) > LARGEST or q < 1 or q > LARGEST:
        return [REFUSED]
    row = quotients(p, q)
    return [len(row)] + row


def quotients(p, q):
    """Give back the row of p / q, in lowest terms or not; q is 1 or more."""
    row = []
    upper = p
    lower = q
    # What is left is from 0 to lower - 1, for p below 0 too, as // rounds down.
    # So each quotient behind the first is 1 or more, and the last of them,
    # which leaves nothing of a greater number, is 2 or more.
    while lower > 0:
        row.append(upper // lower)
        left = upper % lower
        upper = lower
        lower = left
    return row


def value(t):
    """Give back 0, then p and q of the row's value in lowest terms, or the refusal alone."""
    if not is_row(t):
        return [REFUSED]
    fraction = fraction_of(t)
    if abs(fraction[0]) > LARGEST or fraction[1] > LARGEST:
        return [BEYOND]
    return [0] + fraction


def is_row(t):
    """Tell whether t is a row of quotients."""
    if len(t) < 1 or len(t) > MOST_QUOTIENTS:
        return False
    if abs(t[0]) > LARGEST:
        return False
    for quotient in t[1:]:
        if quotient < 1 or quotient > LARGEST:
            return False
    return len(t) == 1 or t[-1] > 1


def fraction_of(row):
    """Give back p and q of the value of a row of quotients, however great they are."""
    upper = row[-1]
    lower = 1
    # A step takes upper / lower to quotient + lower / upper. A divisor of both new
    # numbers divides both old ones, so the terms stay the lowest; and the new lower
    # number is above 0, as each quotient behind the first is.
    for quotient in reversed(row[:-1]):
        behind = upper
        upper = quotient * upper + lower
        lower = behind
    return [upper, lower]


def less(t, u):
    """Give back 1 if the value of row t is less, 2 if that of u is, 0 if they're the same, or the refusal."""
    if not is_row(t) or not is_row(u):
        return [REFUSED]
    return [order_of(t, u)]


def order_of(t, u):
    """Give back 1, 2 or 0, as less does, for two rows of quotients."""
    place = alike(t, u)
    if place == len(t) and place == len(u):
        return 0
    # A row that ends goes on as if with what is above all, so the lesser quotient is the other's.
    lesser_in_t = place == len(u) or place < len(t) and t[place] < u[place]
    # What stands at an odd place divides, so there the lesser quotient makes the greater value.
    at_even_place = place % 2 == 0
    return 1 if lesser_in_t == at_even_place else 2


def alike(t, u):
    """Give back how many quotients two rows begin with alike."""
    place = 0
    while place < len(t) and place < len(u) and t[place] == u[place]:
        place += 1
    return place
