"""Promise 3: the simplest fraction between two."""

import unittest
from itertools import product

from turnstree.fractions import between


def by_search(a, b, c, d):
    """Every lower number in its order, and for each every upper number."""
    lower = 0
    while True:
        lower += 1
        for upper in range(0, c * lower + 1):
            if a * lower < upper * b and upper * d < c * lower:
                return [0, upper, lower]


def by_the_tree(a, b, c, d):
    """The first fraction on the way down the tree that lies between."""
    left, right = (0, 1), (1, 0)
    while True:
        here = (left[0] + right[0], left[1] + right[1])
        if here[0] * b <= a * here[1]:
            left = here
        elif here[0] * d >= c * here[1]:
            right = here
        else:
            return [0, here[0], here[1]]


class OrdinaryPairs(unittest.TestCase):
    def test_below_one(self):
        self.assertEqual(between(1, 3, 1, 2), [0, 2, 5])
        self.assertEqual(between(1, 2, 2, 3), [0, 3, 5])
        self.assertEqual(between(2, 5, 3, 5), [0, 1, 2])
        self.assertEqual(between(2, 7, 3, 7), [0, 1, 3])
        self.assertEqual(between(7, 10, 5, 7), [0, 12, 17])
        self.assertEqual(between(7, 10, 18, 25), [0, 5, 7])

    def test_above_one(self):
        self.assertEqual(between(3, 2, 5, 3), [0, 8, 5])
        self.assertEqual(between(7, 3, 12, 5), [0, 19, 8])
        self.assertEqual(between(333, 106, 355, 113), [0, 688, 219])
        self.assertEqual(between(314, 100, 315, 100), [0, 22, 7])
        self.assertEqual(between(5000, 3, 5000, 2), [0, 1667, 1])

    def test_one_below_and_one_above_one(self):
        self.assertEqual(between(2, 3, 3, 2), [0, 1, 1])
        self.assertEqual(between(1, 5000, 5000, 1), [0, 1, 1])


class Edges(unittest.TestCase):
    def test_from_0(self):
        self.assertEqual(between(0, 1, 1, 1), [0, 1, 2])
        self.assertEqual(between(0, 1, 1, 2), [0, 1, 3])
        self.assertEqual(between(0, 1, 2, 3), [0, 1, 2])
        self.assertEqual(between(0, 7, 3, 7), [0, 1, 3])
        self.assertEqual(between(0, 1, 1, 5000), [0, 1, 5001])
        self.assertEqual(between(0, 5000, 1, 5000), [0, 1, 5001])
        self.assertEqual(between(0, 5000, 5000, 1), [0, 1, 1])

    def test_common_parts(self):
        self.assertEqual(between(2, 4, 4, 6), [0, 3, 5])
        self.assertEqual(between(2, 4, 2, 3), [0, 3, 5])
        self.assertEqual(between(1, 2, 4, 6), [0, 3, 5])
        self.assertEqual(between(5000, 5000, 4000, 2000), [0, 3, 2])
        self.assertEqual(between(1000, 3000, 2500, 5000), [0, 2, 5])
        self.assertEqual(between(2499, 4998, 2500, 4998), [0, 1251, 2501])

    def test_two_that_lie_close(self):
        self.assertEqual(between(4999, 5000, 5000, 4999), [0, 1, 1])
        self.assertEqual(between(4998, 4999, 4999, 5000), [0, 9997, 9999])
        self.assertEqual(between(5000, 4999, 4999, 4998), [0, 9999, 9997])
        self.assertEqual(between(1, 5000, 1, 4999), [0, 2, 9999])
        self.assertEqual(between(4999, 5000, 1, 1), [0, 5000, 5001])
        self.assertEqual(between(1, 1, 5000, 4999), [0, 5001, 5000])

    def test_a_whole_number_between(self):
        self.assertEqual(between(3, 2, 5, 2), [0, 2, 1])
        self.assertEqual(between(99, 50, 101, 50), [0, 2, 1])

    def test_of_several_whole_numbers_the_least(self):
        self.assertEqual(between(1, 2, 5, 1), [0, 1, 1])
        self.assertEqual(between(3, 2, 5000, 1), [0, 2, 1])
        self.assertEqual(between(0, 1, 5000, 1), [0, 1, 1])
        self.assertEqual(between(4990, 1, 5000, 1), [0, 4991, 1])

    def test_neither_of_both(self):
        self.assertEqual(between(1, 1, 2, 1), [0, 3, 2])
        self.assertEqual(between(1, 1, 3, 1), [0, 2, 1])
        self.assertEqual(between(0, 1, 2, 1), [0, 1, 1])
        self.assertEqual(between(4999, 1, 5000, 1), [0, 9999, 2])
        self.assertEqual(between(3, 3, 6, 3), [0, 3, 2])
        self.assertEqual(between(1, 1, 5, 2), [0, 2, 1])
        self.assertEqual(between(3, 2, 2, 1), [0, 5, 3])


class AgainstTheRule(unittest.TestCase):
    def test_all_small_pairs(self):
        for a, b, c, d in product(range(0, 9), range(1, 9), range(1, 9), range(1, 9)):
            if a * d < c * b:
                self.assertEqual(between(a, b, c, d), by_search(a, b, c, d), (a, b, c, d))

    def test_pairs_all_over(self):
        some = (1, 2, 3, 137, 1597, 2500, 2584, 3333, 4181, 4998, 4999, 5000)
        for a, b, c, d in product((0,) + some, some, some, some):
            if a * d < c * b:
                self.assertEqual(between(a, b, c, d), by_the_tree(a, b, c, d), (a, b, c, d))

    def test_neighbours_of_great_lower_numbers(self):
        for b in range(4000, 5001, 50):
            for a in range(0, b, 331):
                for d in (b - 1, b, b - 37):
                    c = a * d // b + 1
                    self.assertEqual(between(a, b, c, d), by_the_tree(a, b, c, d), (a, b, c, d))


if __name__ == "__main__":
    unittest.main()
