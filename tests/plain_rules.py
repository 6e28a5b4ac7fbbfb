"""The document's own rules, done as plainly as they stand, against which the program is checked."""

from fractions import Fraction

RIGHT = "R"
LEFT = "L"


def turns_of(a, b):
    """The turns of a/b, each of them by itself."""
    found = []
    while (a, b) != (1, 1):
        if a > b:
            found.append(RIGHT)
            a = a - b
        else:
            found.append(LEFT)
            b = b - a
    return found


def runs_of(found):
    """The turns told as runs, the first of them to the right."""
    runs = []
    side = RIGHT
    k = 0
    while k < len(found):
        run = 0
        while k < len(found) and found[k] == side:
            run += 1
            k += 1
        runs.append(run)
        side = LEFT if side == RIGHT else RIGHT
    return runs


def fraction_at(found):
    """The fraction that the turns lead to."""
    c, d = 1, 1
    for turn in reversed(found):
        if turn == RIGHT:
            c, d = c + d, d
        else:
            c, d = c, c + d
    return c, d


def turns_in(runs):
    """The runs told as turns, each of them by itself."""
    found = []
    for k, run in enumerate(runs):
        found.extend([RIGHT if k % 2 == 0 else LEFT] * run)
    return found


def size_in_order(n):
    """All fractions of the size n, the least first, each as its two numbers."""
    found = {Fraction(a, b) for b in range(1, n + 1) for a in range(0, b + 1)}
    return [(fraction.numerator, fraction.denominator) for fraction in sorted(found)]


def stern_numbers(most):
    """Stern's numbers s(0) to s(most), one after another by their rule."""
    numbers = [0, 1]
    while len(numbers) <= most:
        n, odd = divmod(len(numbers), 2)
        numbers.append(numbers[n] + numbers[n + 1] if odd else numbers[n])
    return numbers


def stern_number(n):
    """s(n) alone, for an n too great to go through all before it."""
    known = {0: 0, 1: 1}

    def s(m):
        if m not in known:
            known[m] = s(m // 2) + s(m // 2 + 1) if m % 2 else s(m // 2)
        return known[m]

    return s(n)
