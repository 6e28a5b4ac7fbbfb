"""Fractions as turns in one tree, and back."""


def turns(a, b):
    """Answer how many runs a/b has, then the runs themselves."""
    runs = []
    # A run takes the second number away from the first; the two then change
    # places, so that the same step serves turns to the right and to the left.
    first = a
    second = b
    while first != second:
        # The last run ends at one, where both numbers are alike: at least 1
        # has to be left over, so the division is of one less.
        run = (first - 1) // second
        runs.append(run)
        rest = first - run * second
        first = second
        second = rest
    return [len(runs)] + runs


def from_runs(runs):
    """Answer 0, then the upper and the lower number of the fraction at the runs' end."""
    upper_number = 1
    lower_number = 1
    # The rule tells a fraction by the one that its later turns lead to, so
    # the last run is gone through first.
    for k in range(len(runs) - 1, -1, -1):
        if k % 2 == 0:
            upper_number = upper_number + runs[k] * lower_number
        else:
            lower_number = lower_number + runs[k] * upper_number
    return [0, upper_number, lower_number]
