"""Rows of quotients: how a fraction is made into one."""

# 2^62, written out because a file's top holds plain values alone.
LARGEST = 4611686018427387904

REFUSED = -22


def of(p, q):
    """Give back how many quotients the row of p / q has, then these, or the refusal alone."""
    if abs(p) > LARGEST or q < 1 or q > LARGEST:
        return [REFUSED]
    row = quotients(p, q)
    return [len(row)] + row


def quotients(p, q):
    """Give back the row of p / q, in lowest terms or not; q is 1 or more."""
    row = []
    upper = p
    lower = q
    # What is left is from 0 to lower - 1, for p below 0 too, as // rounds down.
    # So each quotient behind the first is 1 or more, and the last of them,
    # which leaves nothing of a greater number, is 2 or more.
    while lower > 0:
        row.append(upper // lower)
        left = upper % lower
        upper = lower
        lower = left
    return row
