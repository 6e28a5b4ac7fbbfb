"""What the interface says of all functions, held against each of the nine."""

import ast
import contextlib
import inspect
import io
import sys
import unittest

from turnstree import fractions
from turnstree.fractions import between, down, from_runs, next_greater, place, rank, stern, turns, way

PARAMETERS = {
    "turns": ["a", "b"],
    "from_runs": ["runs"],
    "between": ["a", "b", "c", "d"],
    "next_greater": ["n", "a", "b"],
    "rank": ["n", "a", "b"],
    "stern": ["n"],
    "place": ["a", "b"],
    "way": ["changes"],
    "down": ["x", "y", "z"],
}

CALLS = (
    (turns, (1, 1)),
    (turns, (5, 2)),
    (turns, (2, 5)),
    (turns, (5000, 1)),
    (turns, (1, 5000)),
    (turns, (4181, 2584)),
    (from_runs, ([],)),
    (from_runs, ([0],)),
    (from_runs, ([0, 5000],)),
    (from_runs, ([3, 7, 15],)),
    (from_runs, ([1] * 44,)),
    (from_runs, ([1] * 64,)),
    (between, (0, 1, 1, 5000)),
    (between, (2, 4, 4, 6)),
    (between, (4998, 4999, 4999, 5000)),
    (between, (1, 2, 5, 1)),
    (next_greater, (1, 0, 1)),
    (next_greater, (5, 1, 3)),
    (next_greater, (5000, 1, 2)),
    (next_greater, (5000, 1, 1)),
    (rank, (1, 0, 1)),
    (rank, (5, 2, 4)),
    (rank, (200, 2500, 5000)),
    (rank, (200, 5000, 5000)),
    (stern, (1,)),
    (stern, (11,)),
    (stern, (2 ** 30,)),
    (stern, (2 ** 31 - 1,)),
    (place, (1, 1)),
    (place, (31, 1)),
    (place, (1, 32)),
    (place, (6, 4)),
    (place, (1, 2 ** 31 - 1)),
    (way, ([],)),
    (way, ([2, 1, 0],)),
    (way, ([0, 1] * 11,)),
    (way, ([0, 1] * 32,)),
    (way, ([2] * 64,)),
    (down, (1, 1, 1)),
    (down, (29, 2, 5)),
    (down, (6466, 1873012681, 96557)),
    (down, (2, 2, 2)),
    (down, (2 ** 31 - 1, 2 ** 31 - 1, 2 ** 31 - 1)),
)


class Locked(list):
    """A list that refuses to be changed, for a while either."""

    def refuse(self, *args, **kwargs):
        raise RuntimeError("what was handed in is changed")

    append = clear = extend = insert = pop = remove = reverse = sort = refuse
    __setitem__ = __delitem__ = __iadd__ = __imul__ = refuse


def deepest_call(function, args):
    """How many Python calls stand within one another while the function runs."""
    depth = 0
    deepest = 0

    def watch(frame, event, arg):
        nonlocal depth, deepest
        if event == "call":
            depth += 1
            deepest = max(deepest, depth)
        elif event == "return":
            depth -= 1

    sys.setprofile(watch)
    try:
        function(*args)
    finally:
        sys.setprofile(None)
    return deepest


class NamesAndArguments(unittest.TestCase):
    def test_parameters(self):
        for name, parameters in PARAMETERS.items():
            function = getattr(fractions, name)
            self.assertEqual(list(inspect.signature(function).parameters), parameters, name)

    def test_every_function_is_among_the_calls(self):
        self.assertEqual({function.__name__ for function, args in CALLS}, set(PARAMETERS))

    def test_arguments_by_name(self):
        self.assertEqual(turns(a=5, b=2), [2, 2, 1])
        self.assertEqual(from_runs(runs=[2, 1]), [0, 5, 2])
        self.assertEqual(between(a=1, b=3, c=1, d=2), [0, 2, 5])
        self.assertEqual(next_greater(n=5, a=1, b=3), [0, 2, 5])
        self.assertEqual(rank(n=5, a=1, b=3), [4])
        self.assertEqual(stern(n=11), [0, 5, 2])
        self.assertEqual(place(a=5, b=2), [11])
        self.assertEqual(way(changes=[2, 1]), [0, 1, 5, 2])
        self.assertEqual(down(x=29, y=2, z=5), [3])


class WhatIsGivenBack(unittest.TestCase):
    def test_a_list_of_whole_numbers(self):
        for function, args in CALLS:
            answer = function(*args)
            self.assertIs(type(answer), list)
            for number in answer:
                self.assertIs(type(number), int, (function, args))

    def test_a_refusal_stands_alone(self):
        for function, args in CALLS:
            answer = function(*args)
            if answer[0] < 0:
                self.assertEqual(answer, [-1], (function, args))

    def test_a_second_call_answers_the_same(self):
        for function, args in CALLS:
            first = function(*args)
            kept = list(first)
            first.append(7)
            first[0] = 9
            self.assertEqual(function(*args), kept, (function, args))

    def test_the_answer_does_not_hang_on_calls_between(self):
        alone = [function(*args) for function, args in CALLS]
        backward = [function(*args) for function, args in reversed(CALLS)]
        self.assertEqual(alone, backward[::-1])
        for (function, args), expected in zip(CALLS, alone):
            for other, other_args in CALLS:
                other(*other_args)
                self.assertEqual(function(*args), expected, (function, args, other, other_args))


class WhatIsHandedIn(unittest.TestCase):
    def check_the_list_stays(self, function, handed_in):
        kept = list(handed_in)
        answer = function(handed_in)
        self.assertEqual(handed_in, kept)
        self.assertIsNot(answer, handed_in)

    def test_the_list_is_the_same_afterwards(self):
        for runs in ([], [0], [2, 1], [0, 3, 7, 15], [1] * 64):
            self.check_the_list_stays(from_runs, runs)
        for changes in ([], [0], [2, 1, 0], [0, 1] * 32, [2] * 64):
            self.check_the_list_stays(way, changes)

    def test_the_list_is_not_changed_for_a_while(self):
        self.assertEqual(from_runs(Locked([])), [0, 1, 1])
        self.assertEqual(from_runs(Locked([3, 7, 15])), [0, 355, 113])
        self.assertEqual(from_runs(Locked([0, 2, 1])), [0, 2, 5])
        self.assertEqual(way(Locked([])), [0, 1, 1, 1])
        self.assertEqual(way(Locked([2, 1, 0])), [0, 29, 5, 2])
        self.assertEqual(way(Locked([0, 1] * 32)), [-1])


class WhatIsNotDone(unittest.TestCase):
    def test_nothing_is_printed(self):
        out = io.StringIO()
        err = io.StringIO()
        with contextlib.redirect_stdout(out), contextlib.redirect_stderr(err):
            for function, args in CALLS:
                function(*args)
        self.assertEqual(out.getvalue() + err.getvalue(), "")

    def test_nothing_is_imported_or_read(self):
        tree = ast.parse(inspect.getsource(fractions))
        for node in ast.walk(tree):
            self.assertNotIsInstance(node, (ast.Import, ast.ImportFrom, ast.Global))
            if isinstance(node, ast.Name):
                self.assertNotIn(node.id, ("open", "input", "print", "exec", "eval"))

    def test_no_calls_as_deep_as_the_input_is_long(self):
        for function, args in CALLS:
            self.assertLessEqual(deepest_call(function, args), 10, (function, args))


if __name__ == "__main__":
    unittest.main()
