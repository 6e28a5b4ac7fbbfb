"""Fractions as turns in one tree, and back; the simplest between two, and the next of a size."""


def turns(a, b):
    """Answer how many runs a/b has, then the runs themselves."""
    runs = []
    # A run takes the second number away from the first; the two then change
    # places, so that the same step serves turns to the right and to the left.
    first = a
    second = b
    while first != second:
        # The last run ends at one, where both numbers are alike: at least 1
        # has to be left over, so the division is of one less.
        run = (first - 1) // second
        runs.append(run)
        rest = first - run * second
        first = second
        second = rest
    return [len(runs)] + runs


def from_runs(runs):
    """Answer 0, then the upper and the lower number of the fraction at the runs' end."""
    upper_number = 1
    lower_number = 1
    # The rule tells a fraction by the one that its later turns lead to, so
    # the last run is gone through first.
    for k in range(len(runs) - 1, -1, -1):
        if k % 2 == 0:
            upper_number = upper_number + runs[k] * lower_number
        else:
            lower_number = lower_number + runs[k] * upper_number
    return [0, upper_number, lower_number]


def least_above(a, b, lower_number):
    """The least upper number that makes, over this lower number, a fraction greater than a/b."""
    return a * lower_number // b + 1


def between(a, b, c, d):
    """Answer 0, then the simplest fraction above a/b and below c/d, its upper and its lower number."""
    lower_number = 1
    upper_number = least_above(a, b, lower_number)
    # (a + c)/(b + d) lies between, so this ends at b + d or before. The first
    # one found has no common part: without it, it would have been found sooner.
    while upper_number * d >= c * lower_number:
        lower_number = lower_number + 1
        upper_number = least_above(a, b, lower_number)
    return [0, upper_number, lower_number]


def next_greater(n, a, b):
    """Answer 0, then the fraction of the size n that follows a/b; -1 where a/b is 1."""
    if a == b:
        return [-1]
    best_upper = 1
    best_lower = 1
    for lower_number in range(2, n + 1):
        upper_number = least_above(a, b, lower_number)
        # Of equal ones the first stays: it's the one without a common part.
        if upper_number * best_lower < best_upper * lower_number:
            best_upper = upper_number
            best_lower = lower_number
    return [0, best_upper, best_lower]
