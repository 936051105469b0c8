"""Tests of what beside and both answer, and of what they refuse (points 1 and 2)."""

import ast
import contextlib
import io
import itertools
import pathlib
import unittest

import graphstogether.graphs
from graphstogether.graphs import beside, both

CALLS = (beside, both)
MOST = 4294967295


def all_arrows(places):
    return list(itertools.product(range(places), repeat=2))


def flat(arrows):
    return [number for arrow in arrows for number in arrow]


def every_graph(places):
    """All graphs with so many places, each as the list that tells it."""
    pairs = all_arrows(places)
    return [
        flat(chosen)
        for size in range(len(pairs) + 1)
        for chosen in itertools.combinations(pairs, size)
    ]


def small_graphs():
    return [(places, told) for places in (1, 2) for told in every_graph(places)]


def arrow_set(told):
    return set(zip(told[0::2], told[1::2]))


def count_maps(places, told, target_places, target_told):
    targets = arrow_set(target_told)
    return sum(
        all((given[u], given[v]) in targets for u, v in arrow_set(told))
        for given in itertools.product(range(target_places), repeat=places)
    )


def complete(places):
    return flat(all_arrows(places))


class BesideTest(unittest.TestCase):
    def test_ordinary(self):
        self.assertEqual(beside(2, 3, [0, 1], [0, 1, 1, 2]), [5, 3, 0, 1, 2, 3, 3, 4])

    def test_unlike_numbers_of_places(self):
        self.assertEqual(
            beside(3, 2, [0, 1, 1, 2, 2, 0], [0, 0, 1, 0]), [5, 5, 0, 1, 1, 2, 2, 0, 3, 3, 4, 3])
        self.assertEqual(
            beside(2, 3, [0, 0, 1, 0], [0, 1, 1, 2, 2, 0]), [5, 5, 0, 0, 1, 0, 2, 3, 3, 4, 4, 2])

    def test_last_places_without_arrows_count(self):
        self.assertEqual(beside(4, 3, [0, 1], [0, 1]), [7, 2, 0, 1, 4, 5])

    def test_one_place(self):
        self.assertEqual(beside(1, 1, [], []), [2, 0])
        self.assertEqual(beside(1, 1, [0, 0], []), [2, 1, 0, 0])
        self.assertEqual(beside(1, 1, [], [0, 0]), [2, 1, 1, 1])
        self.assertEqual(beside(1, 1, [0, 0], [0, 0]), [2, 2, 0, 0, 1, 1])

    def test_no_arrows(self):
        self.assertEqual(beside(3, 4, [], []), [7, 0])
        self.assertEqual(beside(3, 2, [], [0, 1]), [5, 1, 3, 4])
        self.assertEqual(beside(3, 2, [0, 2], []), [5, 1, 0, 2])

    def test_one_and_five_places(self):
        self.assertEqual(beside(1, 5, [0, 0], [0, 4, 4, 0]), [6, 3, 0, 0, 1, 5, 5, 1])
        self.assertEqual(beside(5, 1, [0, 4, 4, 0], [0, 0]), [6, 3, 0, 4, 4, 0, 5, 5])
        self.assertEqual(beside(5, 5, [], []), [10, 0])

    def test_places_numbered_the_other_way_about(self):
        self.assertEqual(beside(2, 2, [0, 1], [0, 1]), [4, 2, 0, 1, 2, 3])
        self.assertEqual(beside(2, 2, [1, 0], [0, 1]), [4, 2, 1, 0, 2, 3])
        self.assertEqual(beside(2, 2, [0, 1], [1, 0]), [4, 2, 0, 1, 3, 2])
        self.assertEqual(beside(3, 3, [2, 1, 2, 2], [2, 0]), [6, 3, 2, 1, 2, 2, 5, 3])

    def test_every_arrow(self):
        shifted = [place + 5 for place in complete(5)]
        self.assertEqual(beside(5, 5, complete(5), complete(5)), [10, 50] + complete(5) + shifted)

    def test_every_pair_of_small_graphs(self):
        for (n, first), (m, second) in itertools.product(small_graphs(), repeat=2):
            arrows = [
                (p, q) for p, q in all_arrows(n + m)
                if (p < n and q < n and (p, q) in arrow_set(first))
                or (p >= n and q >= n and (p - n, q - n) in arrow_set(second))
            ]
            self.assertEqual(beside(n, m, first, second), [n + m, len(arrows)] + flat(arrows))

    def test_maps_of_both_beside_one_another_are_the_product(self):
        for (n, first), (m, second) in itertools.product(small_graphs(), repeat=2):
            made = beside(n, m, first, second)
            for third in ([], [0, 1], [0, 0, 1, 0], [0, 1, 1, 0]):
                self.assertEqual(
                    count_maps(made[0], made[2:], 2, third),
                    count_maps(n, first, 2, third) * count_maps(m, second, 2, third))


class BothTest(unittest.TestCase):
    def test_ordinary(self):
        self.assertEqual(both(2, 3, [0, 1], [0, 1, 1, 2]), [6, 2, 0, 4, 1, 5])

    def test_arrows_rise_though_the_parts_interleave(self):
        self.assertEqual(
            both(2, 2, [0, 0, 0, 1], [0, 1, 1, 0]), [4, 4, 0, 1, 0, 3, 1, 0, 1, 2])

    def test_unlike_numbers_of_places(self):
        self.assertEqual(both(3, 2, [0, 1, 2, 0], [1, 0]), [6, 2, 1, 2, 5, 0])
        self.assertEqual(both(2, 3, [1, 0], [0, 1, 2, 0]), [6, 2, 3, 1, 5, 0])

    def test_one_place(self):
        self.assertEqual(both(1, 1, [], []), [1, 0])
        self.assertEqual(both(1, 1, [0, 0], []), [1, 0])
        self.assertEqual(both(1, 1, [], [0, 0]), [1, 0])
        self.assertEqual(both(1, 1, [0, 0], [0, 0]), [1, 1, 0, 0])

    def test_one_place_with_an_arrow_leaves_the_other_as_it_was(self):
        for places, told in small_graphs():
            expected = [places, len(told) // 2] + told
            self.assertEqual(both(1, places, [0, 0], told), expected)
            self.assertEqual(both(places, 1, told, [0, 0]), expected)

    def test_no_arrows(self):
        self.assertEqual(both(3, 4, [], []), [12, 0])
        self.assertEqual(both(3, 2, [], [0, 0, 0, 1]), [6, 0])
        self.assertEqual(both(3, 2, [0, 2], []), [6, 0])

    def test_one_and_five_places(self):
        self.assertEqual(both(1, 5, [0, 0], [0, 4, 4, 0]), [5, 2, 0, 4, 4, 0])
        self.assertEqual(both(5, 1, [0, 4, 4, 0], []), [5, 0])
        self.assertEqual(both(5, 5, [], []), [25, 0])
        self.assertEqual(both(5, 5, [4, 3], [0, 4]), [25, 1, 20, 19])

    def test_places_numbered_the_other_way_about(self):
        self.assertEqual(both(2, 2, [0, 1], [0, 1]), [4, 1, 0, 3])
        self.assertEqual(both(2, 2, [1, 0], [0, 1]), [4, 1, 2, 1])
        self.assertEqual(both(2, 2, [0, 1], [1, 0]), [4, 1, 1, 2])
        self.assertEqual(both(2, 2, [1, 0], [1, 0]), [4, 1, 3, 0])

    def test_an_arrow_of_one_alone_is_none_of_both(self):
        # The second has no arrow to itself at place 1: the pair (0, 1) has none either.
        self.assertEqual(both(1, 2, [0, 0], [0, 0]), [2, 1, 0, 0])
        self.assertEqual(both(2, 1, [0, 1], []), [2, 0])
        self.assertEqual(both(1, 2, [], [0, 1]), [2, 0])

    def test_every_arrow(self):
        self.assertEqual(both(5, 5, complete(5), complete(5)), [25, 625] + complete(25))

    def test_every_pair_of_small_graphs(self):
        for (n, first), (m, second) in itertools.product(small_graphs(), repeat=2):
            arrows = [
                (p, q) for p, q in all_arrows(n * m)
                if (p // m, q // m) in arrow_set(first) and (p % m, q % m) in arrow_set(second)
            ]
            self.assertEqual(both(n, m, first, second), [n * m, len(arrows)] + flat(arrows))

    def test_maps_into_both_at_once_are_the_product(self):
        for (n, first), (m, second) in itertools.product(small_graphs(), repeat=2):
            made = both(n, m, first, second)
            for third in ([], [0, 1], [0, 0, 1, 0], [0, 1, 1, 0]):
                self.assertEqual(
                    count_maps(2, third, made[0], made[2:]),
                    count_maps(2, third, n, first) * count_maps(2, third, m, second))


NO_GRAPHS = (
    ("no places", 0, []),
    ("no places, but an arrow", 0, [0, 0]),
    ("six places", 6, []),
    ("six places and an arrow", 6, [0, 5]),
    ("as many places as can be told", MOST, []),
    ("as many places as can be told, and an arrow", MOST, [0, 1]),
    ("one number", 2, [0]),
    ("odd length", 2, [0, 0, 1]),
    ("odd length, the last one too great", 2, [0, 1, 2]),
    ("from a place that isn't there", 2, [2, 0]),
    ("to a place that isn't there", 2, [0, 2]),
    ("from a place far off", 5, [0, 1, MOST, 0]),
    ("to a place far off", 5, [0, 1, 1, MOST]),
    ("of five places, to the sixth", 5, [4, 5]),
    ("of one place, to a second", 1, [0, 1]),
    ("an arrow twice", 3, [0, 1, 0, 1]),
    ("the last arrow twice", 3, [0, 1, 1, 2, 1, 2]),
    ("an arrow to itself twice", 1, [0, 0, 0, 0]),
    ("falling by the first", 3, [1, 0, 0, 1]),
    ("falling by the second", 3, [1, 2, 1, 0]),
    ("falling at the end", 3, [0, 0, 1, 1, 2, 2, 2, 1]),
    ("an arrow twice, not side by side", 3, [0, 1, 1, 0, 0, 1]),
    ("60 numbers, all zero", 5, [0] * 60),
    ("60 numbers that rise", 5, complete(6)[:60]),
    ("60 numbers, every arrow and five again", 5, complete(5) + complete(5)[:10]),
    ("60 numbers as great as can be", 5, [MOST] * 60),
)

GRAPHS = ((1, []), (1, [0, 0]), (3, [0, 1, 1, 2, 2, 0]), (5, complete(5)))


class RefusalTest(unittest.TestCase):
    def test_first_is_no_graph(self):
        for call, (name, n, first), (m, second) in itertools.product(CALLS, NO_GRAPHS, GRAPHS):
            with self.subTest(call=call.__name__, name=name, m=m):
                self.assertEqual(call(n, m, first, second), [-22])

    def test_second_is_no_graph(self):
        for call, (n, first), (name, m, second) in itertools.product(CALLS, GRAPHS, NO_GRAPHS):
            with self.subTest(call=call.__name__, name=name, n=n):
                self.assertEqual(call(n, m, first, second), [-22])

    def test_neither_is_a_graph(self):
        for call, one, other in itertools.product(CALLS, NO_GRAPHS, NO_GRAPHS):
            with self.subTest(call=call.__name__, first=one[0], second=other[0]):
                self.assertEqual(call(one[1], other[1], one[2], other[2]), [-22])

    def test_each_list_is_held_against_its_own_places(self):
        for call in CALLS:
            self.assertEqual(call(2, 3, [0, 2], [0, 1]), [-22])
            self.assertEqual(call(3, 2, [0, 1], [0, 2]), [-22])

    def test_refused_is_just_what_tells_no_graph(self):
        lists = [list(told) for size in range(7) for told in itertools.product(range(3), repeat=size)]
        for places in (1, 2):
            graphs = every_graph(places)
            for call, told in itertools.product(CALLS, lists):
                refused = told not in graphs
                self.assertEqual(call(places, 1, told, []) == [-22], refused, (places, told))
                self.assertEqual(call(1, places, [], told) == [-22], refused, (places, told))

    def test_all_numbers_of_places(self):
        for call, places in itertools.product(CALLS, (0, 1, 2, 3, 4, 5, 6, 7, 60, MOST - 1, MOST)):
            refused = places not in (1, 2, 3, 4, 5)
            self.assertEqual(call(places, 1, [], []) == [-22], refused, places)
            self.assertEqual(call(1, places, [], []) == [-22], refused, places)


class CallTest(unittest.TestCase):
    def cases(self):
        yield 2, 3, [0, 1, 1, 0], [0, 0, 0, 2, 1, 2]
        yield 5, 5, complete(5), complete(5)
        yield 1, 1, [], []
        yield 3, 3, [1, 0, 0, 1], [0, 1]
        yield 3, 3, [0, 1], [0, 1, 0, 1]

    def test_what_is_handed_in_stays_as_it_was(self):
        for call, (n, m, first, second) in itertools.product(CALLS, self.cases()):
            first_before, second_before = tuple(first), tuple(second)
            call(n, m, first, second)
            self.assertEqual((tuple(first), tuple(second)), (first_before, second_before))

    def test_the_same_list_may_be_handed_in_twice(self):
        told = [0, 1]
        self.assertEqual(beside(2, 2, told, told), [4, 2, 0, 1, 2, 3])
        self.assertEqual(both(2, 2, told, told), [4, 1, 0, 3])
        self.assertEqual(told, [0, 1])

    def test_a_second_call_answers_the_same(self):
        for call, case in itertools.product(CALLS, self.cases()):
            answered = call(*case)
            kept = list(answered)
            answered.append(-1)
            self.assertEqual(call(*case), kept)

    def test_a_call_in_between_changes_nothing(self):
        for call, case, other in itertools.product(CALLS, self.cases(), self.cases()):
            answered = call(*case)
            beside(*other)
            both(*other)
            self.assertEqual(call(*case), answered)

    def test_lists_of_whole_numbers_are_answered(self):
        for call, case in itertools.product(CALLS, self.cases()):
            answered = call(*case)
            self.assertIs(type(answered), list)
            self.assertEqual({type(number) for number in answered}, {int})

    def test_arguments_are_called_as_the_interface_says(self):
        self.assertEqual(beside(n=1, m=2, first=[0, 0], second=[1, 0]), [3, 2, 0, 0, 2, 1])
        self.assertEqual(both(n=1, m=2, first=[0, 0], second=[1, 0]), [2, 1, 1, 0])

    def test_nothing_is_printed(self):
        out, err = io.StringIO(), io.StringIO()
        with contextlib.redirect_stdout(out), contextlib.redirect_stderr(err):
            for call, case in itertools.product(CALLS, self.cases()):
                call(*case)
        self.assertEqual(out.getvalue() + err.getvalue(), "")

    def test_nothing_is_imported(self):
        folder = pathlib.Path(graphstogether.graphs.__file__).parent
        for path in folder.glob("*.py"):
            for node in ast.walk(ast.parse(path.read_text(encoding="utf-8"))):
                self.assertNotIsInstance(node, (ast.Import, ast.ImportFrom), path.name)


if __name__ == "__main__":
    unittest.main()
