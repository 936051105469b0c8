"""Tests of what countways answers, and of when there is too much to count (point 3)."""

import itertools
import unittest

from graphstogether.graphs import countways
from helpers import (
    CYCLE, INWARD, OUTWARD, PATH, arrow_set, complete, count_maps, flat, other_way_about, small_graphs,
    some_of_three_places, some_triples, turn, without_own)


def some_graphs():
    """Three graphs each, of which the third has 1 or 2 places: all of 1 or 2 places, some of 3 places."""
    for triple in some_triples():
        if triple[2][0] <= 2:
            yield triple
    three = some_of_three_places()
    yield from itertools.product(three, three, small_graphs()[1::6])


def by_the_words(n, m, o, first, second, third):
    arrows, targets = arrow_set(first), arrow_set(second)
    every_way = list(itertools.product(range(m), repeat=n))
    leading = [
        (k, j) for (k, f), (j, g) in itertools.product(enumerate(every_way), repeat=2)
        if all((f[u], g[v]) in targets for u, v in arrows)
    ]
    at_once = [
        (p * n + u, q * n + v) for (p, q), (u, v) in itertools.product(arrow_set(third), arrows)
    ]
    return [
        count_maps(o, third, len(every_way), flat(leading)),
        count_maps(o * n, flat(at_once), m, second),
    ]


class CountWaysTest(unittest.TestCase):
    def test_ordinary(self):
        self.assertEqual(countways(2, 2, 2, [0, 1], [0, 1], [0, 1]), [4, 4])
        self.assertEqual(countways(2, 2, 2, [0, 1], [0, 1], [0, 1, 1, 1]), [2, 2])
        self.assertEqual(countways(2, 3, 2, [0, 1], PATH, [0, 1]), [18, 18])
        self.assertEqual(countways(3, 2, 2, PATH, [0, 1], [0, 1]), [4, 4])
        self.assertEqual(countways(2, 2, 2, [0, 1, 1, 0], [0, 0, 0, 1], [0, 1, 1, 0]), [1, 1])
        self.assertEqual(countways(3, 3, 2, CYCLE, without_own(3), [0, 1]), [216, 216])
        self.assertEqual(countways(3, 3, 2, PATH, without_own(3), [0, 1]), [324, 324])

    def test_into_ways_of_one_place_with_an_arrow_there_are_as_many_as_maps(self):
        self.assertEqual(countways(2, 3, 1, [0, 1], PATH, [0, 0]), [2, 2])
        self.assertEqual(countways(3, 3, 1, CYCLE, CYCLE, [0, 0]), [3, 3])
        self.assertEqual(countways(3, 3, 1, OUTWARD, OUTWARD, [0, 0]), [4, 4])

    def test_one_place(self):
        self.assertEqual(countways(1, 1, 1, [], [], []), [1, 1])
        self.assertEqual(countways(1, 1, 1, [0, 0], [], []), [1, 1])
        self.assertEqual(countways(1, 1, 1, [], [0, 0], []), [1, 1])
        self.assertEqual(countways(1, 1, 1, [], [], [0, 0]), [1, 1])
        self.assertEqual(countways(1, 1, 1, [0, 0], [0, 0], []), [1, 1])
        self.assertEqual(countways(1, 1, 1, [0, 0], [], [0, 0]), [0, 0])
        self.assertEqual(countways(1, 1, 1, [], [0, 0], [0, 0]), [1, 1])
        self.assertEqual(countways(1, 1, 1, [0, 0], [0, 0], [0, 0]), [1, 1])

    def test_first_or_second_of_one_place(self):
        self.assertEqual(countways(1, 3, 2, [0, 0], PATH, [0, 1]), [2, 2])
        self.assertEqual(countways(1, 3, 2, [], PATH, [0, 1]), [9, 9])
        self.assertEqual(countways(3, 1, 2, CYCLE, [0, 0], [0, 1]), [1, 1])
        self.assertEqual(countways(3, 1, 2, CYCLE, [], [0, 1]), [0, 0])
        self.assertEqual(countways(3, 1, 2, CYCLE, [], []), [1, 1])

    def test_no_arrows_in_the_first(self):
        # All ways lead to all.
        self.assertEqual(countways(1, 2, 1, [], [0, 1], [0, 0]), [2, 2])
        self.assertEqual(countways(2, 2, 2, [], [0, 1], complete(2)), [16, 16])
        self.assertEqual(countways(2, 3, 2, [], PATH, [0, 1]), [81, 81])

    def test_no_arrows_in_the_second(self):
        self.assertEqual(countways(2, 2, 2, [0, 1], [], [0, 1]), [0, 0])
        self.assertEqual(countways(3, 2, 1, CYCLE, [], [0, 0]), [0, 0])

    def test_no_arrows_in_the_third(self):
        self.assertEqual(countways(2, 3, 2, [0, 1], PATH, []), [81, 81])
        self.assertEqual(countways(3, 2, 1, CYCLE, [0, 1], []), [8, 8])

    def test_no_arrows_in_two(self):
        self.assertEqual(countways(2, 3, 2, [], [], complete(2)), [81, 81])
        self.assertEqual(countways(3, 2, 2, [], [0, 1], []), [64, 64])
        self.assertEqual(countways(3, 2, 2, [0, 1], [], []), [64, 64])

    def test_no_arrows_in_all_three(self):
        self.assertEqual(countways(3, 2, 2, [], [], []), [64, 64])
        self.assertEqual(countways(2, 3, 2, [], [], []), [81, 81])
        self.assertEqual(countways(2, 3, 1, [], [], []), [9, 9])

    def test_places_numbered_the_other_way_about(self):
        self.assertEqual(countways(2, 2, 2, [1, 0], [0, 1], [0, 1]), [4, 4])
        self.assertEqual(countways(3, 3, 2, OUTWARD, INWARD, [0, 1]), [54, 54])
        self.assertEqual(countways(3, 3, 2, INWARD, INWARD, [0, 1]), [108, 108])
        self.assertEqual(countways(3, 3, 2, [2, 0, 2, 1], INWARD, [0, 1]), [54, 54])
        self.assertEqual(countways(3, 3, 2, OUTWARD, [0, 2, 1, 2], [0, 1]), [54, 54])
        self.assertEqual(countways(3, 3, 2, OUTWARD, INWARD, [1, 0]), [54, 54])

    def test_an_arrow_that_is_of_one_graph_alone(self):
        self.assertEqual(countways(2, 2, 2, [0, 1], [], []), [16, 16])
        self.assertEqual(countways(2, 2, 2, [], [0, 1], []), [16, 16])
        self.assertEqual(countways(2, 2, 2, [], [], [0, 1]), [16, 16])
        self.assertEqual(countways(2, 2, 1, [0, 0], [1, 1], [0, 0]), [2, 2])
        self.assertEqual(countways(2, 2, 2, [0, 1], [0, 1], [0, 0]), [4, 4])

    def test_unlike_numbers_of_places(self):
        self.assertEqual(countways(1, 3, 2, [0, 0], CYCLE, [0, 1]), [3, 3])
        self.assertEqual(countways(1, 2, 2, [0, 0], [0, 1], [0, 1]), [1, 1])
        self.assertEqual(countways(3, 2, 1, PATH, [0, 1, 1, 1], [0, 0]), [2, 2])
        self.assertEqual(countways(3, 1, 2, PATH, [0, 0], complete(2)), [1, 1])

    def test_no_map_at_all(self):
        self.assertEqual(countways(3, 2, 1, CYCLE, [0, 1, 1, 0], [0, 0]), [0, 0])
        self.assertEqual(countways(2, 3, 1, [0, 1, 1, 0], CYCLE, [0, 0]), [0, 0])
        self.assertEqual(countways(3, 3, 1, CYCLE, [0, 1], [0, 0]), [0, 0])
        self.assertEqual(countways(3, 3, 2, CYCLE, [0, 1], [0, 1, 1, 0]), [0, 0])

    def test_27_ways(self):
        self.assertEqual(countways(3, 3, 1, [], [], []), [27, 27])
        self.assertEqual(countways(3, 3, 2, [], [], []), [729, 729])
        self.assertEqual(countways(3, 3, 2, [], [], complete(2)), [729, 729])
        self.assertEqual(countways(3, 3, 2, complete(3), complete(3), complete(2)), [729, 729])
        self.assertEqual(countways(3, 3, 2, CYCLE, [0, 1], [0, 1]), [1, 1])
        self.assertEqual(countways(3, 3, 2, [0, 2], [2, 0], [0, 1]), [81, 81])
        self.assertEqual(countways(3, 3, 2, CYCLE, CYCLE, [0, 1]), [27, 27])
        self.assertEqual(countways(3, 3, 2, CYCLE, CYCLE, [0, 1, 1, 0]), [3, 3])
        self.assertEqual(countways(3, 3, 1, without_own(3), without_own(3), [0, 0]), [6, 6])
        # Colourings of a ring of six in three colours.
        self.assertEqual(countways(3, 3, 2, without_own(3), without_own(3), without_own(2)), [66, 66])

    def test_third_with_more_than_2_places(self):
        for n, m, o in itertools.product((1, 2, 3), (1, 2, 3), (3, 4, 5)):
            for third in ([], [0, 0], complete(o)):
                self.assertEqual(countways(n, m, o, [], [], third), [-75])
                self.assertEqual(countways(n, m, o, [0, 0], complete(m), third), [-75])

    def test_first_or_second_with_more_than_3_places(self):
        for few, many, o in itertools.product((1, 2, 3), (4, 5), (1, 2)):
            for third in ([], [0, 0], complete(o)):
                self.assertEqual(countways(many, few, o, [], [], third), [-75])
                self.assertEqual(countways(few, many, o, [], [], third), [-75])
                self.assertEqual(countways(many, few, o, complete(many), [0, 0], third), [-75])
                self.assertEqual(countways(few, many, o, [0, 0], complete(many), third), [-75])

    def test_all_numbers_of_places(self):
        for n, m, o in itertools.product((1, 2, 3, 4, 5), repeat=3):
            refused = n > 3 or m > 3 or o > 2
            freely = [-75] if refused else [m ** (n * o)] * 2
            self.assertEqual(countways(n, m, o, [], [], []), freely, (n, m, o))
            to_the_last = [-75] if refused else [1, 1]
            self.assertEqual(
                countways(n, m, o, complete(n), [m - 1, m - 1], complete(o)), to_the_last, (n, m, o))

    def test_many_graphs_by_the_words(self):
        for (n, first), (m, second), (o, third) in some_graphs():
            handed = (n, m, o, first, second, third)
            self.assertEqual(countways(*handed), by_the_words(*handed), handed)

    def test_into_all_ways_there_are_as_many_as_of_both_at_once_into_the_second(self):
        for (n, first), (m, second), (o, third) in some_graphs():
            answered = countways(n, m, o, first, second, third)
            self.assertEqual(len(answered), 2)
            self.assertEqual(answered[0], answered[1], (first, second, third))

    def test_turned_about_there_are_as_many(self):
        for (n, first), (m, second), (o, third) in some_graphs():
            self.assertEqual(
                countways(n, m, o, turn(first), turn(second), turn(third)),
                countways(n, m, o, first, second, third))

    def test_any_one_numbered_the_other_way_about_there_are_as_many(self):
        for (n, first), (m, second), (o, third) in some_graphs():
            answered = countways(n, m, o, first, second, third)
            self.assertEqual(countways(n, m, o, other_way_about(n, first), second, third), answered)
            self.assertEqual(countways(n, m, o, first, other_way_about(m, second), third), answered)
            self.assertEqual(countways(n, m, o, first, second, other_way_about(o, third)), answered)


if __name__ == "__main__":
    unittest.main()
