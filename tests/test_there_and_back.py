"""Promises 1 and 2 together: the runs that turns tells lead back."""

import unittest
from itertools import product
from math import gcd

from turnstree.fractions import from_runs, turns


class ThereAndBack(unittest.TestCase):
    def check(self, a, b):
        if gcd(a, b) == 1:
            told = turns(a, b)
            runs = told[1:]
            self.assertEqual(told[0], len(runs), (a, b))
            self.assertTrue(all(run > 0 for run in runs[1:]), (a, b))
            self.assertEqual(from_runs(runs), [0, a, b], (a, b))

    def test_small_fractions(self):
        for a in range(1, 301):
            for b in range(1, 301):
                self.check(a, b)

    def test_all_fractions_with_a_number_near_5000(self):
        for near in range(4991, 5001):
            for other in range(1, 5001):
                self.check(near, other)
                self.check(other, near)

    def test_fractions_all_over(self):
        for a in range(1, 5001, 37):
            for b in range(1, 5001, 41):
                self.check(a, b)

    def test_from_the_runs_and_back(self):
        for length in range(1, 6):
            for later in product((1, 2, 5), repeat=length - 1):
                for first in (0, 1, 4):
                    runs = [first] + list(later)
                    told = from_runs(runs)
                    if runs != [0]:
                        self.assertEqual(turns(told[1], told[2]), [len(runs)] + runs, runs)


if __name__ == "__main__":
    unittest.main()
