"""Tests of what is refused as no graph (point 1), and of what the interface says of every call."""

import ast
import contextlib
import copy
import io
import itertools
import pathlib
import unittest

import graphstogether.graphs
from graphstogether.graphs import beside, both, countbeside, countboth, countways, turned, ways
from helpers import CYCLE, GRAPHS, MOST, NO_GRAPHS, PATH, complete, every_graph

# The calls that are handed two graphs, and those that are handed three.
CALLS = (beside, both, ways)
COUNTS = (countbeside, countboth, countways)


class RefusalTest(unittest.TestCase):
    def test_first_is_no_graph(self):
        for call, (name, n, first), (m, second) in itertools.product(CALLS, NO_GRAPHS, GRAPHS):
            with self.subTest(call=call.__name__, name=name, m=m):
                self.assertEqual(call(n, m, first, second), [-22])

    def test_second_is_no_graph(self):
        for call, (n, first), (name, m, second) in itertools.product(CALLS, GRAPHS, NO_GRAPHS):
            with self.subTest(call=call.__name__, name=name, n=n):
                self.assertEqual(call(n, m, first, second), [-22])

    def test_neither_is_a_graph(self):
        for call, one, other in itertools.product(CALLS, NO_GRAPHS, NO_GRAPHS):
            with self.subTest(call=call.__name__, first=one[0], second=other[0]):
                self.assertEqual(call(one[1], other[1], one[2], other[2]), [-22])

    def test_each_list_is_held_against_its_own_places(self):
        for call in CALLS:
            self.assertEqual(call(2, 3, [0, 2], [0, 1]), [-22])
            self.assertEqual(call(3, 2, [0, 1], [0, 2]), [-22])

    def test_refused_is_just_what_tells_no_graph(self):
        lists = [list(told) for size in range(7) for told in itertools.product(range(3), repeat=size)]
        for places in (1, 2):
            graphs = every_graph(places)
            for call, told in itertools.product(CALLS, lists):
                refused = told not in graphs
                self.assertEqual(call(places, 1, told, []) == [-22], refused, (places, told))
                self.assertEqual(call(1, places, [], told) == [-22], refused, (places, told))

    def test_all_numbers_of_places(self):
        for call, places in itertools.product(CALLS, (0, 1, 2, 3, 4, 5, 6, 7, 60, MOST - 1, MOST)):
            refused = places not in (1, 2, 3, 4, 5)
            self.assertEqual(call(places, 1, [], []) == [-22], refused, places)
            self.assertEqual(call(1, places, [], []) == [-22], refused, places)

    def test_no_graph_comes_ahead_of_too_many_ways(self):
        # Were these graphs, there would be 3125, 81, 32, 7776 and far more ways.
        self.assertEqual(ways(5, 5, [0, 5], complete(5)), [-22])
        self.assertEqual(ways(4, 3, [0, 1], [0, 1, 0, 1]), [-22])
        self.assertEqual(ways(5, 2, [1, 0, 0, 1], []), [-22])
        self.assertEqual(ways(5, 6, [], []), [-22])
        self.assertEqual(ways(MOST, MOST, [], []), [-22])

    def test_turned_of_no_graph(self):
        for name, n, first in NO_GRAPHS:
            with self.subTest(name=name):
                self.assertEqual(turned(n, first), [-22])

    def test_turned_refuses_just_what_tells_no_graph(self):
        for places in (1, 2):
            graphs = every_graph(places)
            for size in range(7):
                for told in itertools.product(range(3), repeat=size):
                    refused = list(told) not in graphs
                    self.assertEqual(turned(places, list(told)) == [-22], refused, (places, told))

    def test_turned_with_all_numbers_of_places(self):
        for places in (0, 1, 2, 3, 4, 5, 6, 7, 60, MOST - 1, MOST):
            refused = places not in (1, 2, 3, 4, 5)
            self.assertEqual(turned(places, []) == [-22], refused, places)


def handed_in(graphs):
    """Graphs, each told as a pair, as a call takes them: all numbers of places, then all lists."""
    return [places for places, told in graphs] + [told for places, told in graphs]


def with_one_graph(places, told, others):
    """The graph as the first, as the second and as the third, the others of one place."""
    return [handed_in(others[:k] + [(places, told)] + others[k:]) for k in range(3)]


class RefusalOfCountsTest(unittest.TestCase):
    def check_no_graph(self, graphs):
        for call in COUNTS:
            # A message, since there are too many of these for a subtest each.
            self.assertEqual(call(*handed_in(graphs)), [-22], (call.__name__, graphs))

    def test_one_of_the_three_is_no_graph(self):
        for (name, places, told), one, other in itertools.product(NO_GRAPHS, GRAPHS, GRAPHS):
            wrong = (places, told)
            self.check_no_graph([wrong, one, other])
            self.check_no_graph([one, wrong, other])
            self.check_no_graph([one, other, wrong])

    def test_two_of_the_three_are_no_graphs(self):
        for one, other, graph in itertools.product(NO_GRAPHS, NO_GRAPHS, GRAPHS):
            self.check_no_graph([graph, one[1:], other[1:]])
            self.check_no_graph([one[1:], graph, other[1:]])
            self.check_no_graph([one[1:], other[1:], graph])

    def test_none_of_the_three_is_a_graph(self):
        for wrong in itertools.product(NO_GRAPHS, repeat=3):
            self.check_no_graph([(places, told) for name, places, told in wrong])

    def test_no_graph_comes_ahead_of_too_many_places(self):
        wrong = ((0, []), (6, []), (MOST, []), (2, [0]), (2, [2, 0]), (2, [0, 2]), (2, [0, 1, 0, 1]),
                 (2, [1, 0, 0, 1]), (5, [0] * 60), (4, [0, 4]), (5, [1, 0, 0, 1]))
        for (places, told), large in itertools.product(wrong, ((4, []), (5, []), (4, PATH), (5, complete(5)))):
            for graph in ((1, [0, 0]), large):
                for order in itertools.permutations([(places, told), large, graph]):
                    self.check_no_graph(order)

    def test_no_graph_comes_ahead_of_too_many_ways(self):
        # Were these graphs, there would be 3125, 81, 32, 32, 7776 and far more ways.
        self.assertEqual(countways(5, 5, 1, [0, 5], complete(5), []), [-22])
        self.assertEqual(countways(4, 3, 2, [0, 1], [0, 1, 0, 1], [0, 1]), [-22])
        self.assertEqual(countways(5, 2, 1, [1, 0, 0, 1], [], [0, 0]), [-22])
        self.assertEqual(countways(5, 2, 2, [0, 1], [0, 1], [0, 2]), [-22])
        self.assertEqual(countways(5, 6, 5, [], [], []), [-22])
        self.assertEqual(countways(MOST, MOST, MOST, [], [], []), [-22])

    def test_each_list_is_held_against_its_own_places(self):
        for call in COUNTS:
            self.assertEqual(call(2, 3, 3, [0, 2], [0, 1], [0, 1]), [-22])
            self.assertEqual(call(3, 2, 3, [0, 1], [0, 2], [0, 1]), [-22])
            self.assertEqual(call(3, 3, 2, [0, 1], [0, 1], [0, 2]), [-22])

    def test_refused_is_just_what_tells_no_graph(self):
        lists = [list(told) for size in range(7) for told in itertools.product(range(3), repeat=size)]
        for places in (1, 2):
            graphs = every_graph(places)
            for call, told in itertools.product(COUNTS, lists):
                for handed in with_one_graph(places, told, [(1, []), (1, [0, 0])]):
                    self.assertEqual(call(*handed) == [-22], told not in graphs, (call.__name__, handed))

    def test_all_numbers_of_places(self):
        for call, places in itertools.product(COUNTS, (0, 1, 2, 3, 4, 5, 6, 7, 60, MOST - 1, MOST)):
            for handed in with_one_graph(places, [], [(1, []), (1, [])]):
                refused = places not in (1, 2, 3, 4, 5)
                self.assertEqual(call(*handed) == [-22], refused, (call.__name__, handed))


class Unchanging(list):
    """A list that fails as soon as it is changed, be it for a while."""

    def refuse(self, *handed, **named):
        raise AssertionError("what was handed in is changed")

    append = clear = extend = insert = pop = remove = reverse = sort = refuse
    __setitem__ = __delitem__ = __iadd__ = __imul__ = refuse


def cases():
    """Calls with what is handed in, each list new: answered ones and refused ones."""
    pairs = (
        (2, 3, [0, 1, 1, 0], [0, 0, 0, 2, 1, 2]),
        (3, 3, [0, 1, 1, 2], [0, 0, 1, 2, 2, 1]),
        (5, 2, complete(5), complete(2)),
        (1, 1, [], []),
        (3, 3, [1, 0, 0, 1], [0, 1]),
        (3, 3, [0, 1], [0, 1, 0, 1]),
    )
    for call, (n, m, first, second) in itertools.product(CALLS, pairs):
        yield call, (n, m, list(first), list(second))
    for n, m, first, second in pairs:
        yield turned, (n, list(first))
        yield turned, (m, list(second))
    triples = (
        (2, 3, 3, [0, 1], PATH, CYCLE),
        (3, 2, 2, PATH, [0, 0, 0, 1], [0, 1, 1, 1]),
        (3, 3, 2, CYCLE, PATH, [0, 1, 1, 0]),
        (1, 1, 1, [], [], []),
        (4, 2, 2, PATH, [0, 1], [0, 1]),
        (2, 2, 2, [1, 0, 0, 1], [0, 1], [0, 1]),
        (2, 2, 2, [0, 1], [0, 1, 0, 1], [0, 1]),
        (2, 2, 2, [0, 1], [0, 1], [0, 2]),
    )
    for call, (n, m, o, first, second, third) in itertools.product(COUNTS, triples):
        yield call, (n, m, o, list(first), list(second), list(third))


class CallTest(unittest.TestCase):
    def test_what_is_handed_in_stays_as_it_was(self):
        for call, handed in cases():
            before = copy.deepcopy(handed)
            call(*handed)
            self.assertEqual(handed, before)

    def test_what_is_handed_in_is_not_changed_for_a_while_either(self):
        for call, handed in cases():
            answered = call(*handed)
            guarded = [Unchanging(value) if isinstance(value, list) else value for value in handed]
            self.assertEqual(call(*guarded), answered)

    def test_what_is_answered_is_a_list_of_its_own(self):
        for call, handed in cases():
            before = copy.deepcopy(handed)
            call(*handed).clear()
            self.assertEqual(handed, before)

    def test_the_same_list_may_be_handed_in_twice(self):
        told = [0, 1]
        self.assertEqual(beside(2, 2, told, told), [4, 2, 0, 1, 2, 3])
        self.assertEqual(both(2, 2, told, told), [4, 1, 0, 3])
        self.assertEqual(ways(2, 2, told, told), [4, 4, 0, 1, 0, 3, 1, 1, 1, 3])
        self.assertEqual(countbeside(2, 2, 2, told, told, told), [1, 1, 1])
        self.assertEqual(countboth(2, 2, 2, told, told, told), [1, 1, 1])
        self.assertEqual(countways(2, 2, 2, told, told, told), [4, 4])
        self.assertEqual(told, [0, 1])

    def test_a_second_call_answers_the_same(self):
        for call, handed in cases():
            answered = call(*handed)
            kept = list(answered)
            answered.append(-1)
            self.assertEqual(call(*handed), kept)

    def test_a_call_in_between_changes_nothing(self):
        alone = [call(*handed) for call, handed in cases()]
        for (call, handed), answered in zip(cases(), alone):
            for other, other_handed in cases():
                other(*other_handed)
                self.assertEqual(call(*handed), answered)

    def test_lists_of_whole_numbers_are_answered(self):
        for call, handed in cases():
            answered = call(*handed)
            self.assertIs(type(answered), list)
            self.assertEqual({type(number) for number in answered}, {int})

    def test_arguments_are_called_as_the_interface_says(self):
        self.assertEqual(beside(n=1, m=2, first=[0, 0], second=[1, 0]), [3, 2, 0, 0, 2, 1])
        self.assertEqual(both(n=1, m=2, first=[0, 0], second=[1, 0]), [2, 1, 1, 0])
        self.assertEqual(ways(n=1, m=2, first=[0, 0], second=[1, 0]), [2, 1, 1, 0])
        self.assertEqual(turned(n=2, first=[1, 0]), [2, 1, 0, 1])
        self.assertEqual(
            countbeside(n=1, m=2, o=3, first=[0, 0], second=[0, 1], third=[0, 0, 0, 1, 1, 2]), [3, 1, 3])
        self.assertEqual(
            countboth(n=1, m=2, o=3, first=[0, 0], second=[0, 0, 0, 1], third=[0, 1]), [4, 1, 4])
        self.assertEqual(
            countways(n=1, m=3, o=2, first=[0, 0], second=[0, 0, 0, 1, 1, 2], third=[0, 1]), [3, 3])

    def test_nothing_is_printed(self):
        out, err = io.StringIO(), io.StringIO()
        with contextlib.redirect_stdout(out), contextlib.redirect_stderr(err):
            for call, handed in cases():
                call(*handed)
        self.assertEqual(out.getvalue() + err.getvalue(), "")

    def test_nothing_is_imported(self):
        folder = pathlib.Path(graphstogether.graphs.__file__).parent
        for path in folder.glob("*.py"):
            for node in ast.walk(ast.parse(path.read_text(encoding="utf-8"))):
                self.assertNotIsInstance(node, (ast.Import, ast.ImportFrom), path.name)


if __name__ == "__main__":
    unittest.main()
