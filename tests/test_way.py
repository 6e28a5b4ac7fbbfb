"""Promise 8: what changes make of 1, 1, 1."""

import unittest
from itertools import product

from turnstree.fractions import way

LIMIT = 2 ** 31


def by_the_rule(changes):
    x, y, z = 1, 1, 1
    for change in changes:
        if change == 0:
            x = 3 * y * z - x
        elif change == 1:
            y = 3 * x * z - y
        else:
            z = 3 * x * y - z
        if max(x, y, z) >= LIMIT:
            return [-1]
    return [0, x, y, z]


class OrdinaryWays(unittest.TestCase):
    def test_several_changes(self):
        self.assertEqual(way([0, 1]), [0, 2, 5, 1])
        self.assertEqual(way([2, 1]), [0, 1, 5, 2])
        self.assertEqual(way([0, 1, 2]), [0, 2, 5, 29])
        self.assertEqual(way([0, 1, 0]), [0, 13, 5, 1])
        self.assertEqual(way([2, 0, 1, 2]), [0, 5, 29, 433])

    def test_the_order_counts(self):
        self.assertEqual(way([0, 2]), [0, 2, 1, 5])
        self.assertEqual(way([2, 0]), [0, 5, 1, 2])


class Edges(unittest.TestCase):
    def test_no_changes(self):
        self.assertEqual(way([]), [0, 1, 1, 1])

    def test_each_single_change(self):
        self.assertEqual(way([0]), [0, 2, 1, 1])
        self.assertEqual(way([1]), [0, 1, 2, 1])
        self.assertEqual(way([2]), [0, 1, 1, 2])

    def test_the_same_change_twice_is_undone(self):
        for change in (0, 1, 2):
            self.assertEqual(way([change, change]), [0, 1, 1, 1])
            self.assertEqual(way([0, 1, 2, change, change]), [0, 2, 5, 29])
        self.assertEqual(way([0, 1, 2, 2, 1, 0]), [0, 1, 1, 1])

    def test_the_greatest_below_the_limit(self):
        self.assertEqual(way([2, 1, 0, 2, 0, 2, 1]), [0, 6466, 1873012681, 96557])
        self.assertEqual(way([0, 1] * 11), [0, 433494437, 1134903170, 1])
        self.assertEqual(way([1, 2] * 11), [0, 1, 433494437, 1134903170])

    def test_the_least_beyond_the_limit(self):
        short = [2, 0, 2, 1, 2, 1, 2, 1, 2]
        self.assertEqual(way(short), [0, 5, 9647009, 144059117])
        self.assertEqual(3 * 5 * 144059117 - 9647009, 2151239746)
        self.assertEqual(way(short + [1]), [-1])

    def test_beyond_the_limit(self):
        self.assertEqual(way([0, 1] * 11 + [0]), [-1])
        self.assertEqual(way([2, 1, 0, 2, 0, 2, 1, 0]), [-1])
        self.assertEqual(way([0, 1, 2] * 3), [-1])

    def test_beyond_the_limit_and_down_again(self):
        self.assertEqual(way([0, 1] * 11 + [0, 0]), [-1])
        self.assertEqual(way([2, 0, 2, 1, 2, 1, 2, 1, 2, 1, 1]), [-1])
        back = [0, 1] * 11 + [0]
        self.assertEqual(way(back + back[::-1]), [-1])

    def test_64_changes(self):
        self.assertEqual(way([0] * 64), [0, 1, 1, 1])
        self.assertEqual(way([1] * 63 + [2]), [0, 1, 2, 5])
        self.assertEqual(way(([0, 1] * 8 + [1, 0] * 8) * 2), [0, 1, 1, 1])
        self.assertEqual(way([2, 2] * 28 + [2, 1, 0, 2, 0, 2, 1, 1]), [0, 6466, 5, 96557])
        self.assertEqual(way([0, 1] * 32), [-1])
        self.assertEqual(way([0, 1, 2] * 21 + [0]), [-1])


class AgainstTheRule(unittest.TestCase):
    def test_all_ways_of_up_to_eight_changes(self):
        for length in range(0, 9):
            for changes in product((0, 1, 2), repeat=length):
                changes = list(changes)
                self.assertEqual(way(changes), by_the_rule(changes), changes)

    def test_longer_ways(self):
        for part in product((0, 1, 2), repeat=5):
            for times in (2, 4, 12):
                changes = (list(part) * times)[:64]
                self.assertEqual(way(changes), by_the_rule(changes), changes)

    def test_each_way_leads_to_a_three(self):
        for changes in product((0, 1, 2), repeat=7):
            answer = way(list(changes))
            if answer != [-1]:
                zero, x, y, z = answer
                self.assertEqual(x * x + y * y + z * z, 3 * x * y * z, changes)


if __name__ == "__main__":
    unittest.main()
