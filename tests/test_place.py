"""Promise 7: where in Stern's numbers a and b follow one another."""

import unittest
from itertools import product
from math import gcd

from plain_rules import stern_number, stern_numbers
from turnstree.fractions import place, stern

GREATEST = 2 ** 31 - 1


class OrdinaryPairs(unittest.TestCase):
    def test_some(self):
        self.assertEqual(place(1, 2), [2])
        self.assertEqual(place(2, 1), [3])
        self.assertEqual(place(3, 2), [5])
        self.assertEqual(place(2, 3), [6])
        self.assertEqual(place(5, 2), [11])
        self.assertEqual(place(2, 5), [12])

    def test_great_pairs(self):
        self.assertEqual(place(2178309, 1346269), [0b1010101010101010101010101010101])
        self.assertEqual(place(832040, 1346269), [0b101010101010101010101010101010])


class Edges(unittest.TestCase):
    def test_1_and_1(self):
        self.assertEqual(place(1, 1), [1])

    def test_powers_of_two_and_their_neighbours(self):
        for k in range(1, 31):
            self.assertEqual(place(1, k + 1), [2 ** k])
            self.assertEqual(place(k, 1), [2 ** k - 1])
        for k in range(2, 31):
            self.assertEqual(place(k + 1, k), [2 ** k + 1])
            self.assertEqual(place(k - 1, k), [2 ** k - 2])

    def test_nearest_below_the_bound(self):
        self.assertEqual(place(31, 1), [GREATEST])
        self.assertEqual(place(30, 31), [GREATEST - 1])
        self.assertEqual(place(59, 30), [GREATEST - 2])

    def test_nearest_from_the_bound_on(self):
        self.assertEqual(place(1, 32), [-1])
        self.assertEqual(place(32, 31), [-1])
        self.assertEqual(place(31, 61), [-1])
        self.assertEqual(place(32, 1), [-1])
        self.assertEqual(place(31, 32), [-1])

    def test_far_beyond_the_bound(self):
        self.assertEqual(place(1, GREATEST), [-1])
        self.assertEqual(place(GREATEST, 1), [-1])
        self.assertEqual(place(GREATEST, GREATEST - 1), [-1])
        self.assertEqual(place(GREATEST - 1, GREATEST), [-1])
        self.assertEqual(place(1836311903, 1134903170), [-1])
        self.assertEqual(place(3524578, 2178309), [-1])
        self.assertEqual(place(2178309, 3524578), [-1])

    def test_common_parts(self):
        self.assertEqual(place(6, 4), [-1])
        self.assertEqual(place(2, 4), [-1])
        self.assertEqual(place(9, 3), [-1])
        self.assertEqual(place(2 ** 30, 2 ** 29), [-1])
        self.assertEqual(place(2 * 832040, 2 * 1346269), [-1])
        self.assertEqual(place(GREATEST - 1, 2), [-1])

    def test_equal_ones(self):
        for number in (2, 3, 4, 100, 2 ** 30, GREATEST):
            self.assertEqual(place(number, number), [-1])


class ThereAndBack(unittest.TestCase):
    def check(self, n):
        zero, here, follower = stern(n)
        self.assertEqual(place(here, follower), [n])

    def test_the_first_some_thousand(self):
        numbers = stern_numbers(5001)
        for n in range(1, 5001):
            self.assertEqual(place(numbers[n], numbers[n + 1]), [n])
            self.check(n)

    def test_numbers_near_powers_of_two(self):
        for k in range(10, 32):
            for n in range(2 ** k - 20, min(2 ** k + 20, GREATEST + 1)):
                self.check(n)

    def test_numbers_all_over(self):
        for n in range(1, GREATEST, 1234567):
            self.check(n)

    def test_numbers_beyond_the_bound(self):
        for n in list(range(2 ** 31, 2 ** 31 + 200)) + list(range(2 ** 31, 2 ** 33, 98765432)):
            self.assertEqual(place(stern_number(n), stern_number(n + 1)), [-1], n)


class AllSmallPairs(unittest.TestCase):
    def test_there_is_one_just_without_a_common_part(self):
        # Up to 20 no pair takes more than 19 steps, so none comes to the bound.
        for a, b in product(range(1, 21), range(1, 21)):
            answer = place(a, b)
            if gcd(a, b) == 1:
                self.assertEqual(stern(answer[0]), [0, a, b])
            else:
                self.assertEqual(answer, [-1])


if __name__ == "__main__":
    unittest.main()
