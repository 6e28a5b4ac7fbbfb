"""Promise 9: how often the greatest of a three is changed till it's 1, 1, 1."""

import unittest
from itertools import permutations, product

from turnstree.fractions import down, way

LIMIT = 2 ** 31
GREATEST = LIMIT - 1


def changed_at(three, k):
    others = [number for place, number in enumerate(three) if place != k]
    changed = list(three)
    changed[k] = 3 * others[0] * others[1] - three[k]
    return tuple(changed)


def threes_and_steps():
    """Each three below the limit, and in how few changes 1, 1, 1 leads to it."""
    steps = {(1, 1, 1): 0}
    waiting = [(1, 1, 1)]
    for three in waiting:
        for k in range(3):
            other = changed_at(three, k)
            if max(other) < LIMIT and other not in steps:
                steps[other] = steps[three] + 1
                waiting.append(other)
    return steps


class OrdinaryThrees(unittest.TestCase):
    def check_each_order(self, three, times):
        for x, y, z in permutations(three):
            self.assertEqual(down(x, y, z), [times], (x, y, z))

    def test_the_first_threes_in_each_order(self):
        self.check_each_order((1, 1, 2), 1)
        self.check_each_order((1, 2, 5), 2)
        self.check_each_order((2, 5, 29), 3)
        self.check_each_order((1, 5, 13), 3)
        self.check_each_order((5, 29, 433), 4)

    def test_great_threes_in_each_order(self):
        self.check_each_order((6466, 96557, 1873012681), 7)
        self.check_each_order((1, 433494437, 1134903170), 22)

    def test_ways_of_several_changes(self):
        for changes in ([0, 1, 2], [2, 1, 0, 2], [1, 0, 1, 0, 1, 2], [0, 1] * 11, [2, 1, 0, 2, 0, 2, 1]):
            zero, x, y, z = way(changes)
            self.assertEqual(down(x, y, z), [len(changes)], changes)


class Edges(unittest.TestCase):
    def test_1_1_1(self):
        self.assertEqual(down(1, 1, 1), [0])

    def test_a_way_with_changes_undone(self):
        zero, x, y, z = way([0, 1, 2, 0, 0, 2, 2])
        self.assertEqual(down(x, y, z), [3])


class NoThrees(unittest.TestCase):
    def test_equal_ones(self):
        for number in (2, 3, 4, 1000, 2 ** 30, GREATEST):
            self.assertEqual(down(number, number, number), [-1])

    def test_near_a_three(self):
        for three in ((1, 1, 1), (1, 1, 2), (1, 2, 5), (2, 5, 29), (6466, 96557, 1873012681)):
            for k, step in product(range(3), (-1, 1)):
                near = list(three)
                near[k] += step
                # 1, 1, 1 and 1, 1, 2 are near one another themselves.
                if near[k] > 0 and sorted(near) not in ([1, 1, 1], [1, 1, 2]):
                    self.assertEqual(down(*near), [-1], near)

    def test_numbers_of_threes_that_are_none_together(self):
        self.assertEqual(down(1, 2, 2), [-1])
        self.assertEqual(down(1, 5, 29), [-1])
        self.assertEqual(down(2, 5, 13), [-1])
        self.assertEqual(down(5, 13, 29), [-1])
        self.assertEqual(down(2, 4, 10), [-1])
        self.assertEqual(down(3, 3, 3), [-1])

    def test_the_greatest_that_may_be_handed_in(self):
        self.assertEqual(down(GREATEST, GREATEST, GREATEST), [-1])
        for three in permutations((1, 1, GREATEST)):
            self.assertEqual(down(*three), [-1])
        for three in permutations((1, GREATEST, GREATEST)):
            self.assertEqual(down(*three), [-1])
        self.assertEqual(down(96557, 6466, GREATEST), [-1])


class AgainstTheRule(unittest.TestCase):
    def test_all_threes_below_the_limit(self):
        steps = threes_and_steps()
        self.assertEqual(max(max(three) for three in steps), 1873012681)
        self.assertEqual(len(steps), 550)
        for three, times in steps.items():
            self.assertEqual(down(*three), [times], three)

    def test_all_small_numbers(self):
        steps = threes_and_steps()
        for three in product(range(1, 36), repeat=3):
            self.assertEqual(down(*three), [steps.get(three, -1)], three)


if __name__ == "__main__":
    unittest.main()
