"""Promise 4: the next greater fraction of a size."""

import unittest
from math import gcd

from plain_rules import size_in_order
from turnstree.fractions import next_greater


class OrdinaryFractions(unittest.TestCase):
    def test_size_5(self):
        self.assertEqual(next_greater(5, 1, 5), [0, 1, 4])
        self.assertEqual(next_greater(5, 1, 3), [0, 2, 5])
        self.assertEqual(next_greater(5, 2, 5), [0, 1, 2])
        self.assertEqual(next_greater(5, 1, 2), [0, 3, 5])
        self.assertEqual(next_greater(5, 3, 4), [0, 4, 5])

    def test_the_same_fraction_in_several_sizes(self):
        self.assertEqual(next_greater(2, 1, 2), [0, 1, 1])
        self.assertEqual(next_greater(3, 1, 2), [0, 2, 3])
        self.assertEqual(next_greater(4, 1, 2), [0, 2, 3])
        self.assertEqual(next_greater(7, 1, 2), [0, 4, 7])
        self.assertEqual(next_greater(100, 1, 2), [0, 50, 99])


class Edges(unittest.TestCase):
    def test_after_0(self):
        for n in range(1, 200):
            self.assertEqual(next_greater(n, 0, 1), [0, 1, n])

    def test_the_one_below_1(self):
        for n in range(2, 200):
            self.assertEqual(next_greater(n, n - 1, n), [0, 1, 1])

    def test_after_1_there_is_none(self):
        for n in (1, 2, 3, 10, 4999, 5000):
            self.assertEqual(next_greater(n, 1, 1), [-1])

    def test_size_1(self):
        self.assertEqual(next_greater(1, 0, 1), [0, 1, 1])
        self.assertEqual(next_greater(1, 1, 1), [-1])

    def test_size_5000(self):
        self.assertEqual(next_greater(5000, 0, 1), [0, 1, 5000])
        self.assertEqual(next_greater(5000, 1, 5000), [0, 1, 4999])
        self.assertEqual(next_greater(5000, 1, 2), [0, 2500, 4999])
        self.assertEqual(next_greater(5000, 2499, 4999), [0, 1, 2])
        self.assertEqual(next_greater(5000, 4998, 4999), [0, 4999, 5000])
        self.assertEqual(next_greater(5000, 4999, 5000), [0, 1, 1])


class AgainstTheRule(unittest.TestCase):
    def check_all_of_size(self, n):
        listed = size_in_order(n)
        self.assertEqual(listed[0], (0, 1))
        self.assertEqual(listed[-1], (1, 1))
        for here, follower in zip(listed, listed[1:]):
            self.assertEqual(next_greater(n, *here), [0, *follower], (n, here))
        self.assertEqual(next_greater(n, *listed[-1]), [-1])

    def test_all_fractions_of_small_sizes(self):
        for n in range(1, 41):
            self.check_all_of_size(n)

    def test_all_fractions_of_size_120(self):
        self.check_all_of_size(120)

    def test_neighbours_in_great_sizes(self):
        # Two follow one another in a size just where they are 1 over the
        # product of their lower numbers apart, and what lies between them
        # first has a lower number, the sum of theirs, that is too great.
        for n in (4999, 5000):
            for b in range(1, n + 1, 271):
                for a in range(1, b, 313):
                    if gcd(a, b) == 1:
                        zero, upper, lower = next_greater(n, a, b)
                        self.assertEqual(zero, 0)
                        self.assertEqual(upper * b - a * lower, 1, (n, a, b))
                        self.assertLessEqual(lower, n, (n, a, b))
                        self.assertGreater(lower + b, n, (n, a, b))


if __name__ == "__main__":
    unittest.main()
