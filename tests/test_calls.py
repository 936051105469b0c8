"""Tests of what is refused as no graph (point 1), and of what the interface says of every call."""

import ast
import contextlib
import copy
import io
import itertools
import pathlib
import unittest

import graphstogether.graphs
from graphstogether.graphs import beside, both, turned, ways
from helpers import GRAPHS, MOST, NO_GRAPHS, complete, every_graph

# The calls that are handed two graphs.
CALLS = (beside, both, ways)


class RefusalTest(unittest.TestCase):
    def test_first_is_no_graph(self):
        for call, (name, n, first), (m, second) in itertools.product(CALLS, NO_GRAPHS, GRAPHS):
            with self.subTest(call=call.__name__, name=name, m=m):
                self.assertEqual(call(n, m, first, second), [-22])

    def test_second_is_no_graph(self):
        for call, (n, first), (name, m, second) in itertools.product(CALLS, GRAPHS, NO_GRAPHS):
            with self.subTest(call=call.__name__, name=name, n=n):
                self.assertEqual(call(n, m, first, second), [-22])

    def test_neither_is_a_graph(self):
        for call, one, other in itertools.product(CALLS, NO_GRAPHS, NO_GRAPHS):
            with self.subTest(call=call.__name__, first=one[0], second=other[0]):
                self.assertEqual(call(one[1], other[1], one[2], other[2]), [-22])

    def test_each_list_is_held_against_its_own_places(self):
        for call in CALLS:
            self.assertEqual(call(2, 3, [0, 2], [0, 1]), [-22])
            self.assertEqual(call(3, 2, [0, 1], [0, 2]), [-22])

    def test_refused_is_just_what_tells_no_graph(self):
        lists = [list(told) for size in range(7) for told in itertools.product(range(3), repeat=size)]
        for places in (1, 2):
            graphs = every_graph(places)
            for call, told in itertools.product(CALLS, lists):
                refused = told not in graphs
                self.assertEqual(call(places, 1, told, []) == [-22], refused, (places, told))
                self.assertEqual(call(1, places, [], told) == [-22], refused, (places, told))

    def test_all_numbers_of_places(self):
        for call, places in itertools.product(CALLS, (0, 1, 2, 3, 4, 5, 6, 7, 60, MOST - 1, MOST)):
            refused = places not in (1, 2, 3, 4, 5)
            self.assertEqual(call(places, 1, [], []) == [-22], refused, places)
            self.assertEqual(call(1, places, [], []) == [-22], refused, places)

    def test_no_graph_comes_ahead_of_too_many_ways(self):
        # Were these graphs, there would be 3125, 81, 32, 7776 and far more ways.
        self.assertEqual(ways(5, 5, [0, 5], complete(5)), [-22])
        self.assertEqual(ways(4, 3, [0, 1], [0, 1, 0, 1]), [-22])
        self.assertEqual(ways(5, 2, [1, 0, 0, 1], []), [-22])
        self.assertEqual(ways(5, 6, [], []), [-22])
        self.assertEqual(ways(MOST, MOST, [], []), [-22])

    def test_turned_of_no_graph(self):
        for name, n, first in NO_GRAPHS:
            with self.subTest(name=name):
                self.assertEqual(turned(n, first), [-22])

    def test_turned_refuses_just_what_tells_no_graph(self):
        for places in (1, 2):
            graphs = every_graph(places)
            for size in range(7):
                for told in itertools.product(range(3), repeat=size):
                    refused = list(told) not in graphs
                    self.assertEqual(turned(places, list(told)) == [-22], refused, (places, told))

    def test_turned_with_all_numbers_of_places(self):
        for places in (0, 1, 2, 3, 4, 5, 6, 7, 60, MOST - 1, MOST):
            refused = places not in (1, 2, 3, 4, 5)
            self.assertEqual(turned(places, []) == [-22], refused, places)


def cases():
    """Calls with what is handed in, each list new: answered ones and refused ones."""
    pairs = (
        (2, 3, [0, 1, 1, 0], [0, 0, 0, 2, 1, 2]),
        (3, 3, [0, 1, 1, 2], [0, 0, 1, 2, 2, 1]),
        (5, 2, complete(5), complete(2)),
        (1, 1, [], []),
        (3, 3, [1, 0, 0, 1], [0, 1]),
        (3, 3, [0, 1], [0, 1, 0, 1]),
    )
    for call, (n, m, first, second) in itertools.product(CALLS, pairs):
        yield call, (n, m, list(first), list(second))
    for n, m, first, second in pairs:
        yield turned, (n, list(first))
        yield turned, (m, list(second))


class CallTest(unittest.TestCase):
    def test_what_is_handed_in_stays_as_it_was(self):
        for call, handed in cases():
            before = copy.deepcopy(handed)
            call(*handed)
            self.assertEqual(handed, before)

    def test_what_is_answered_is_a_list_of_its_own(self):
        for call, handed in cases():
            before = copy.deepcopy(handed)
            call(*handed).clear()
            self.assertEqual(handed, before)

    def test_the_same_list_may_be_handed_in_twice(self):
        told = [0, 1]
        self.assertEqual(beside(2, 2, told, told), [4, 2, 0, 1, 2, 3])
        self.assertEqual(both(2, 2, told, told), [4, 1, 0, 3])
        self.assertEqual(ways(2, 2, told, told), [4, 4, 0, 1, 0, 3, 1, 1, 1, 3])
        self.assertEqual(told, [0, 1])

    def test_a_second_call_answers_the_same(self):
        for call, handed in cases():
            answered = call(*handed)
            kept = list(answered)
            answered.append(-1)
            self.assertEqual(call(*handed), kept)

    def test_a_call_in_between_changes_nothing(self):
        alone = [call(*handed) for call, handed in cases()]
        for (call, handed), answered in zip(cases(), alone):
            for other, other_handed in cases():
                other(*other_handed)
                self.assertEqual(call(*handed), answered)

    def test_lists_of_whole_numbers_are_answered(self):
        for call, handed in cases():
            answered = call(*handed)
            self.assertIs(type(answered), list)
            self.assertEqual({type(number) for number in answered}, {int})

    def test_arguments_are_called_as_the_interface_says(self):
        self.assertEqual(beside(n=1, m=2, first=[0, 0], second=[1, 0]), [3, 2, 0, 0, 2, 1])
        self.assertEqual(both(n=1, m=2, first=[0, 0], second=[1, 0]), [2, 1, 1, 0])
        self.assertEqual(ways(n=1, m=2, first=[0, 0], second=[1, 0]), [2, 1, 1, 0])
        self.assertEqual(turned(n=2, first=[1, 0]), [2, 1, 0, 1])

    def test_nothing_is_printed(self):
        out, err = io.StringIO(), io.StringIO()
        with contextlib.redirect_stdout(out), contextlib.redirect_stderr(err):
            for call, handed in cases():
                call(*handed)
        self.assertEqual(out.getvalue() + err.getvalue(), "")

    def test_nothing_is_imported(self):
        folder = pathlib.Path(graphstogether.graphs.__file__).parent
        for path in folder.glob("*.py"):
            for node in ast.walk(ast.parse(path.read_text(encoding="utf-8"))):
                self.assertNotIsInstance(node, (ast.Import, ast.ImportFrom), path.name)


if __name__ == "__main__":
    unittest.main()
