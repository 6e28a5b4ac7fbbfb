"""Fractions as turns in one tree, and back; the simplest between two; the next
of a size, and how many up to one; Stern's numbers; threes of numbers whose
squares come to three times their product."""

# 2^31: what place finds, and each number on a way, has to stay below it.
LIMIT = 2147483648


def turns(a, b):
    """Answer how many runs a/b has, then the runs themselves."""
    runs = []
    # A run takes the second number away from the first; the two then change
    # places, so that the same step serves turns to the right and to the left.
    first = a
    second = b
    while first != second:
        # The last run ends at one, where both numbers are alike: at least 1
        # has to be left over, so the division is of one less.
        run = (first - 1) // second
        runs.append(run)
        rest = first - run * second
        first = second
        second = rest
    return [len(runs)] + runs


def from_runs(runs):
    """Answer 0, then the upper and the lower number of the fraction at the runs' end."""
    upper_number = 1
    lower_number = 1
    # The rule tells a fraction by the one that its later turns lead to, so
    # the last run is gone through first.
    for k in range(len(runs) - 1, -1, -1):
        if k % 2 == 0:
            upper_number = upper_number + runs[k] * lower_number
        else:
            lower_number = lower_number + runs[k] * upper_number
    return [0, upper_number, lower_number]


def least_above(a, b, lower_number):
    """The least upper number that makes, over this lower number, a fraction greater than a/b."""
    return a * lower_number // b + 1


def between(a, b, c, d):
    """Answer 0, then the simplest fraction above a/b and below c/d, its upper and its lower number."""
    lower_number = 1
    upper_number = least_above(a, b, lower_number)
    # (a + c)/(b + d) lies between, so this ends at b + d or before. The first
    # one found has no common part: without it, it would have been found sooner.
    while upper_number * d >= c * lower_number:
        lower_number = lower_number + 1
        upper_number = least_above(a, b, lower_number)
    return [0, upper_number, lower_number]


def next_greater(n, a, b):
    """Answer 0, then the fraction of the size n that follows a/b; -1 where a/b is 1."""
    if a == b:
        return [-1]
    best_upper = 1
    best_lower = 1
    for lower_number in range(2, n + 1):
        upper_number = least_above(a, b, lower_number)
        # Of equal ones the first stays: it's the one without a common part.
        if upper_number * best_lower < best_upper * lower_number:
            best_upper = upper_number
            best_lower = lower_number
    return [0, best_upper, best_lower]


def rank(n, a, b):
    """Answer how many fractions of the size n are no greater than a/b."""
    # For each lower number, how many upper numbers above 0 keep within a/b:
    # at first those with a common part too.
    counts = [a * lower_number // b for lower_number in range(n + 1)]
    for lower_number in range(1, n + 1):
        # A fraction without a common part stands again, with one, over each
        # multiple of its lower number. The smaller ones come first, so what
        # is taken away is itself already right.
        for multiple in range(2 * lower_number, n + 1, lower_number):
            counts[multiple] = counts[multiple] - counts[lower_number]
    # 0/1 is counted by none of them.
    return [1 + sum(counts)]


def stern(n):
    """Answer 0, then s(n) and s(n + 1)."""
    # From s(m) and s(m + 1) the rule tells those of 2m and of 2m + 1: so m
    # grows from 0 to n by n's binary digits, the highest first.
    here = 0
    follower = 1
    for k in range(n.bit_length() - 1, -1, -1):
        if (n >> k) % 2 == 0:
            follower = here + follower
        else:
            here = here + follower
    return [0, here, follower]


def place(a, b):
    """Answer the n below 2^31 with s(n) = a and s(n + 1) = b; -1 if there's none."""
    first = a
    second = b
    n = 0
    # Each step goes from n to n // 2 and finds one binary digit, the lowest
    # first; what is left at 1 and 1 is the highest digit.
    digit = 1
    while first != second:
        if first > second:
            n = n + digit
            first = first - second
        else:
            second = second - first
        digit = 2 * digit
        if digit >= LIMIT:
            return [-1]
    if first != 1:
        return [-1]
    return [n + digit]


def changed(numbers, k):
    """What changing puts in the place of the k-th of three numbers."""
    return 3 * numbers[(k + 1) % 3] * numbers[(k + 2) % 3] - numbers[k]


def way(changes):
    """Answer 0, then what the changes make of 1, 1, 1; -1 if a number comes to 2^31 on the way."""
    numbers = [1, 1, 1]
    for k in changes:
        numbers[k] = changed(numbers, k)
        if numbers[k] >= LIMIT:
            return [-1]
    return [0] + numbers


def down(x, y, z):
    """Answer how often the greatest is changed till it's 1, 1, 1; -1 if they're no three."""
    if x * x + y * y + z * z != 3 * x * y * z:
        return [-1]
    numbers = [x, y, z]
    times = 0
    # Changing makes another three of a three, and its greatest number less
    # wherever that is above 1: so this ends.
    while numbers != [1, 1, 1]:
        greatest = numbers.index(max(numbers))
        numbers[greatest] = changed(numbers, greatest)
        times = times + 1
    return [times]
