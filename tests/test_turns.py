"""Promise 1: how many runs a/b has, and they."""

import unittest
from math import gcd

from plain_rules import runs_of, turns_of
from turnstree.fractions import turns


def expected(a, b):
    runs = runs_of(turns_of(a, b))
    return [len(runs)] + runs


class OrdinaryFractions(unittest.TestCase):
    def test_above_one(self):
        self.assertEqual(turns(3, 2), [2, 1, 1])
        self.assertEqual(turns(5, 2), [2, 2, 1])
        self.assertEqual(turns(7, 5), [3, 1, 2, 1])
        self.assertEqual(turns(355, 113), [3, 3, 7, 15])

    def test_below_one(self):
        self.assertEqual(turns(2, 3), [3, 0, 1, 1])
        self.assertEqual(turns(2, 5), [3, 0, 2, 1])
        self.assertEqual(turns(5, 7), [4, 0, 1, 2, 1])
        self.assertEqual(turns(113, 355), [4, 0, 3, 7, 15])

    def test_the_order_of_the_runs_is_from_the_top(self):
        self.assertEqual(turns(10, 3), [2, 3, 2])
        self.assertEqual(turns(7, 3), [2, 2, 2])
        self.assertEqual(turns(9, 4), [2, 2, 3])
        self.assertEqual(turns(11, 3), [3, 3, 1, 1])


class Edges(unittest.TestCase):
    def test_one_has_no_runs(self):
        self.assertEqual(turns(1, 1), [0])

    def test_first_run_is_0_below_one_alone(self):
        self.assertEqual(turns(1, 2), [2, 0, 1])
        self.assertEqual(turns(2, 1), [1, 1])
        for a in range(1, 60):
            for b in range(1, 60):
                if gcd(a, b) == 1 and a != b:
                    self.assertEqual(turns(a, b)[1] == 0, a < b, (a, b))

    def test_whole_numbers(self):
        for a in range(2, 5001):
            self.assertEqual(turns(a, 1), [1, a - 1])

    def test_reverses_of_whole_numbers(self):
        for b in range(2, 5001):
            self.assertEqual(turns(1, b), [2, 0, b - 1])

    def test_both_near_5000(self):
        self.assertEqual(turns(5000, 4999), [2, 1, 4998])
        self.assertEqual(turns(4999, 5000), [3, 0, 1, 4998])

    def test_many_runs(self):
        self.assertEqual(turns(4181, 2584), [17] + [1] * 17)
        self.assertEqual(turns(2584, 4181), [18, 0] + [1] * 17)
        self.assertEqual(turns(4935, 3571), [16, 1, 2] + [1] * 13 + [2])
        self.assertEqual(turns(3101, 5000), [16, 0, 1, 1, 1, 1, 1, 2, 1, 1, 1, 2, 2, 1, 1, 1, 1])


class AgainstTheRule(unittest.TestCase):
    def check(self, a, b):
        if gcd(a, b) == 1:
            self.assertEqual(turns(a, b), expected(a, b), (a, b))

    def test_small_fractions(self):
        for a in range(1, 121):
            for b in range(1, 121):
                self.check(a, b)

    def test_fractions_with_a_number_near_5000(self):
        for near in (4993, 4999, 5000):
            for other in range(1, 5001, 7):
                self.check(near, other)
                self.check(other, near)


if __name__ == "__main__":
    unittest.main()
