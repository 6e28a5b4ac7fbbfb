"""Promise 6: s(n) and s(n + 1) of Stern's numbers."""

import unittest

from plain_rules import stern_number, stern_numbers
from turnstree.fractions import stern

GREATEST = 2 ** 31 - 1


class OrdinaryNumbers(unittest.TestCase):
    def test_some(self):
        # s(0) on: 0 1 1 2 1 3 2 3 1 4 3 5 2 5 3 4 1
        self.assertEqual(stern(2), [0, 1, 2])
        self.assertEqual(stern(3), [0, 2, 1])
        self.assertEqual(stern(5), [0, 3, 2])
        self.assertEqual(stern(6), [0, 2, 3])
        self.assertEqual(stern(10), [0, 3, 5])
        self.assertEqual(stern(11), [0, 5, 2])
        self.assertEqual(stern(12), [0, 2, 5])

    def test_a_great_one(self):
        # The greatest of each row of the tree come where the digits take turns.
        self.assertEqual(stern(0b1010101010101010101010101010101), [0, 2178309, 1346269])
        self.assertEqual(stern(0b101010101010101010101010101010), [0, 832040, 1346269])


class Edges(unittest.TestCase):
    def test_the_first(self):
        self.assertEqual(stern(1), [0, 1, 1])

    def test_powers_of_two_and_their_neighbours(self):
        for k in range(1, 31):
            self.assertEqual(stern(2 ** k), [0, 1, k + 1])
            self.assertEqual(stern(2 ** k - 1), [0, k, 1])
        for k in range(2, 31):
            self.assertEqual(stern(2 ** k + 1), [0, k + 1, k])
            self.assertEqual(stern(2 ** k - 2), [0, k - 1, k])

    def test_the_greatest(self):
        self.assertEqual(stern(GREATEST), [0, 31, 1])
        self.assertEqual(stern(GREATEST - 1), [0, 30, 31])


class AgainstTheRule(unittest.TestCase):
    def test_the_first_some_thousand(self):
        numbers = stern_numbers(5001)
        for n in range(1, 5001):
            self.assertEqual(stern(n), [0, numbers[n], numbers[n + 1]], n)

    def test_numbers_all_over(self):
        for n in list(range(1, GREATEST, 7654321)) + list(range(GREATEST - 50, GREATEST + 1)):
            self.assertEqual(stern(n), [0, stern_number(n), stern_number(n + 1)], n)

    def test_what_follows_begins_with_what_came_last(self):
        for start in (1, 999, 2 ** 16 - 50, 2 ** 30 - 50, GREATEST - 100):
            for n in range(start, start + 100):
                self.assertEqual(stern(n)[2], stern(n + 1)[1], n)


if __name__ == "__main__":
    unittest.main()
