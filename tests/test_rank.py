"""Promise 5: how many fractions of a size are no greater than a/b."""

import unittest
from bisect import bisect_right
from fractions import Fraction

from plain_rules import size_in_order
from turnstree.fractions import rank


def listed(n):
    return [Fraction(a, b) for a, b in size_in_order(n)]


class OrdinaryFractions(unittest.TestCase):
    def test_of_the_size_itself(self):
        # 0/1 1/5 1/4 1/3 2/5 1/2 3/5 2/3 3/4 4/5 1/1
        self.assertEqual(rank(5, 1, 5), [2])
        self.assertEqual(rank(5, 1, 3), [4])
        self.assertEqual(rank(5, 2, 5), [5])
        self.assertEqual(rank(5, 1, 2), [6])
        self.assertEqual(rank(5, 4, 5), [10])

    def test_between_two_of_the_size(self):
        self.assertEqual(rank(5, 1, 6), [1])
        self.assertEqual(rank(5, 3, 8), [4])
        self.assertEqual(rank(5, 5, 11), [5])
        self.assertEqual(rank(5, 5, 6), [10])
        self.assertEqual(rank(5, 4999, 5000), [10])

    def test_common_parts(self):
        self.assertEqual(rank(5, 2, 4), [6])
        self.assertEqual(rank(5, 2500, 5000), [6])
        self.assertEqual(rank(5, 6, 10), [7])
        self.assertEqual(rank(1, 2, 4), [1])


class Edges(unittest.TestCase):
    def test_up_to_0_there_is_one(self):
        for n in (1, 2, 3, 7, 100, 199, 200):
            for b in (1, 2, 5, 200, 4999, 5000):
                self.assertEqual(rank(n, 0, b), [1])

    def test_up_to_1_there_are_all(self):
        for n in (1, 2, 3, 7, 100, 199, 200):
            for b in (1, 2, 5, 200, 4999, 5000):
                self.assertEqual(rank(n, b, b), [len(size_in_order(n))])

    def test_size_1(self):
        self.assertEqual(rank(1, 0, 1), [1])
        self.assertEqual(rank(1, 1, 1), [2])
        self.assertEqual(rank(1, 1, 2), [1])
        self.assertEqual(rank(1, 4999, 5000), [1])
        self.assertEqual(rank(1, 5000, 5000), [2])

    def test_size_200(self):
        self.assertEqual(rank(200, 1, 1), [12233])
        self.assertEqual(rank(200, 1, 2), [6117])
        self.assertEqual(rank(200, 1, 200), [2])
        self.assertEqual(rank(200, 1, 201), [1])
        self.assertEqual(rank(200, 199, 200), [12232])
        self.assertEqual(rank(200, 198, 200), [12132])

    def test_great_lower_numbers(self):
        self.assertEqual(rank(200, 1, 5000), [1])
        self.assertEqual(rank(200, 24, 5000), [1])
        self.assertEqual(rank(200, 25, 5000), [2])
        self.assertEqual(rank(200, 4974, 5000), [12224])
        self.assertEqual(rank(200, 4975, 5000), [12232])
        self.assertEqual(rank(200, 4999, 5000), [12232])


class AgainstTheRule(unittest.TestCase):
    def test_small_sizes(self):
        for n in range(1, 21):
            fractions = listed(n)
            for b in range(1, 41):
                for a in range(0, b + 1):
                    expected = [bisect_right(fractions, Fraction(a, b))]
                    self.assertEqual(rank(n, a, b), expected, (n, a, b))

    def test_each_of_a_size_in_its_order(self):
        for n in (1, 2, 12, 60):
            for place, (a, b) in enumerate(size_in_order(n), start=1):
                self.assertEqual(rank(n, a, b), [place], (n, a, b))

    def test_great_sizes(self):
        for n in (128, 180, 199, 200):
            fractions = listed(n)
            for b in (3, 197, 200, 4096, 4999, 5000):
                for a in range(0, b + 1, 1 + b // 60):
                    expected = [bisect_right(fractions, Fraction(a, b))]
                    self.assertEqual(rank(n, a, b), expected, (n, a, b))


if __name__ == "__main__":
    unittest.main()
