"""Promise 2: the fraction to which the runs lead."""

import unittest
from itertools import product

from plain_rules import fraction_at, turns_in
from turnstree.fractions import from_runs

LIMIT = 2 ** 31
MOST_TURNS = 5000


def expected(runs):
    upper, lower = fraction_at(turns_in(runs))
    return [0, upper, lower]


class OrdinaryRuns(unittest.TestCase):
    def test_first_to_the_right(self):
        self.assertEqual(from_runs([1]), [0, 2, 1])
        self.assertEqual(from_runs([1, 1]), [0, 3, 2])
        self.assertEqual(from_runs([2, 1]), [0, 5, 2])
        self.assertEqual(from_runs([3, 7, 15]), [0, 355, 113])

    def test_the_order_of_the_runs_is_from_the_top(self):
        self.assertEqual(from_runs([3, 2]), [0, 10, 3])
        self.assertEqual(from_runs([2, 3]), [0, 9, 4])
        self.assertEqual(from_runs([1, 2, 3]), [0, 13, 9])
        self.assertEqual(from_runs([3, 2, 1]), [0, 17, 5])


class Edges(unittest.TestCase):
    def test_no_runs(self):
        self.assertEqual(from_runs([]), [0, 1, 1])

    def test_first_run_0_alone(self):
        self.assertEqual(from_runs([0]), [0, 1, 1])

    def test_first_run_0(self):
        self.assertEqual(from_runs([0, 1]), [0, 1, 2])
        self.assertEqual(from_runs([0, 2, 1]), [0, 2, 5])
        self.assertEqual(from_runs([0, 3, 7, 15]), [0, 113, 355])

    def test_one_run_of_5000_turns(self):
        self.assertEqual(from_runs([5000]), [0, 5001, 1])
        self.assertEqual(from_runs([0, 5000]), [0, 1, 5001])

    def test_5000_turns_together(self):
        self.assertEqual(from_runs([2500, 2500]), [0, 6252501, 2501])
        self.assertEqual(from_runs([0, 2500, 2500]), [0, 2501, 6252501])
        self.assertEqual(from_runs([1, 4999]), [0, 5001, 5000])
        self.assertEqual(from_runs([4999, 1]), [0, 9999, 2])
        for runs in ([100, 4000, 900], [4980] + [1] * 20, [1] * 20 + [4980], [0, 7, 4986, 7]):
            self.assertEqual(sum(runs), MOST_TURNS)
            self.assertEqual(from_runs(runs), expected(runs))
            self.assertLess(max(from_runs(runs)), LIMIT)

    def test_the_most_runs_below_the_limit(self):
        # One turn a run makes the numbers grow least: 45 runs with a first 0
        # are the most that lead to numbers below 2^31.
        self.assertEqual(from_runs([1] * 44), [0, 1836311903, 1134903170])
        self.assertEqual(from_runs([0] + [1] * 44), [0, 1134903170, 1836311903])

    def test_64_runs(self):
        # No 64 runs keep below 2^31; the arithmetic has no such limit.
        self.assertEqual(from_runs([1] * 64), [0, 27777890035288, 17167680177565])
        self.assertEqual(from_runs([0] + [1] * 63), [0, 10610209857723, 17167680177565])
        longest = [0] + [78] * 25 + [80] * 38
        self.assertEqual(len(longest), 64)
        self.assertEqual(from_runs(longest), expected(longest))

    def test_numbers_close_below_the_limit(self):
        upper_last = [1, 1, 1, 1, 1, 1, 1, 1, 1, 1, 1, 1, 1, 1, 2, 1, 1, 2, 3, 1, 2, 2, 2]
        upper_last = upper_last + [1, 1, 1, 1, 1, 1, 1, 2, 1, 2, 3, 1, 1]
        self.assertEqual(from_runs(upper_last), [0, 2147483647, 1327217102])
        self.assertEqual(from_runs([0] + upper_last), [0, 1327217102, 2147483647])
        tail = [1, 2, 2, 1, 1, 2, 1, 1, 3, 3, 2, 4, 1, 1, 1, 2, 1, 1]
        self.assertEqual(from_runs([4970] + tail), [0, 2147483647, 432028])
        self.assertEqual(from_runs([0, 1, 4969] + tail), [0, 2147051619, 2147483647])
        self.assertEqual(from_runs([1, 4969] + tail), [0, 2147483647, 2147051619])


class AgainstTheRule(unittest.TestCase):
    def test_all_short_runs(self):
        for length in range(1, 6):
            for later in product(range(1, 5), repeat=length - 1):
                for first in range(0, 5):
                    runs = [first] + list(later)
                    self.assertEqual(from_runs(runs), expected(runs), runs)


if __name__ == "__main__":
    unittest.main()
