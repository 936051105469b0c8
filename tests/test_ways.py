"""Tests of what ways answers, and of when there are too many (point 2)."""

import itertools
import unittest

from graphstogether.graphs import both, ways
from helpers import all_arrows, arrow_set, complete, count_maps, every_graph, flat, small_graphs


def given(way, place, n, m):
    """What the way with this number gives the place: its digit to the base m, the first place's leading."""
    return way // m ** (n - 1 - place) % m


def by_the_words(n, m, first, second):
    targets = arrow_set(second)
    arrows = [
        (f, g) for f, g in all_arrows(m ** n)
        if all((given(f, u, n, m), given(g, v, n, m)) in targets for u, v in arrow_set(first))
    ]
    return [m ** n, len(arrows)] + flat(arrows)


def all_to_all(places):
    return [places, places * places] + complete(places)


class WaysTest(unittest.TestCase):
    def test_ordinary(self):
        self.assertEqual(ways(2, 2, [0, 1], [0, 1]), [4, 4, 0, 1, 0, 3, 1, 1, 1, 3])
        self.assertEqual(ways(2, 2, [0, 1, 1, 0], [0, 0, 0, 1]), [4, 4, 0, 0, 0, 1, 0, 2, 0, 3])
        self.assertEqual(ways(2, 2, [0, 1, 1, 1], [0, 1]), [4, 2, 0, 1, 0, 3])

    def test_unlike_numbers_of_places(self):
        self.assertEqual(ways(2, 3, [0, 1], [0, 1, 1, 2]), [
            9, 18, 0, 1, 0, 4, 0, 7, 1, 1, 1, 4, 1, 7, 2, 1, 2, 4, 2, 7,
            3, 2, 3, 5, 3, 8, 4, 2, 4, 5, 4, 8, 5, 2, 5, 5, 5, 8])
        self.assertEqual(ways(3, 2, [0, 1, 1, 2], [0, 1]), [8, 4, 0, 3, 0, 7, 1, 3, 1, 7])

    def test_what_is_no_map_is_a_way_too(self):
        # Only 1 of these 4 ways is a map.
        self.assertEqual(ways(2, 2, [0, 1], [0, 1])[0], 4)
        # No way is a map here.
        self.assertEqual(ways(2, 3, [0, 0], [0, 1, 1, 2])[0], 9)

    def test_one_place(self):
        self.assertEqual(ways(1, 1, [], []), [1, 1, 0, 0])
        self.assertEqual(ways(1, 1, [0, 0], []), [1, 0])
        self.assertEqual(ways(1, 1, [], [0, 0]), [1, 1, 0, 0])
        self.assertEqual(ways(1, 1, [0, 0], [0, 0]), [1, 1, 0, 0])

    def test_first_of_one_place_with_an_arrow_leaves_the_second_as_it_was(self):
        for m, second in small_graphs() + [(3, [0, 2, 1, 1, 2, 0]), (4, [3, 0]), (5, [0, 4, 3, 1, 4, 0])]:
            self.assertEqual(ways(1, m, [0, 0], second), [m, len(second) // 2] + second)

    def test_second_of_one_place(self):
        for n in (1, 2, 3, 4, 5):
            for first in ([0, 0], [0, n - 1], complete(n)):
                self.assertEqual(ways(n, 1, first, [0, 0]), [1, 1, 0, 0])
                self.assertEqual(ways(n, 1, first, []), [1, 0])
            self.assertEqual(ways(n, 1, [], [0, 0]), [1, 1, 0, 0])
            self.assertEqual(ways(n, 1, [], []), [1, 1, 0, 0])

    def test_first_without_arrows_lets_all_ways_lead_to_all(self):
        self.assertEqual(ways(1, 2, [], []), [2, 4, 0, 0, 0, 1, 1, 0, 1, 1])
        for second in every_graph(2):
            self.assertEqual(ways(2, 2, [], second), all_to_all(4))
        self.assertEqual(ways(1, 5, [], [0, 1]), all_to_all(5))
        self.assertEqual(ways(4, 2, [], []), all_to_all(16))
        self.assertEqual(ways(3, 3, [], []), all_to_all(27))

    def test_second_without_arrows_lets_none_lead_on(self):
        self.assertEqual(ways(2, 2, [0, 1], []), [4, 0])
        self.assertEqual(ways(3, 2, [2, 2], []), [8, 0])
        self.assertEqual(ways(2, 5, [1, 0], []), [25, 0])
        self.assertEqual(ways(3, 3, complete(3), []), [27, 0])

    def test_second_with_every_arrow_lets_all_ways_lead_to_all(self):
        self.assertEqual(ways(2, 5, [0, 1], complete(5)), all_to_all(25))
        self.assertEqual(ways(3, 3, complete(3), complete(3)), all_to_all(27))

    def test_one_and_five_places(self):
        self.assertEqual(ways(1, 5, [0, 0], [0, 4, 4, 0]), [5, 2, 0, 4, 4, 0])
        self.assertEqual(ways(5, 1, [0, 4, 4, 0], [0, 0]), [1, 1, 0, 0])
        self.assertEqual(ways(5, 1, [0, 4, 4, 0], []), [1, 0])

    def test_places_numbered_the_other_way_about(self):
        self.assertEqual(ways(2, 2, [1, 0], [0, 1]), [4, 4, 0, 2, 0, 3, 2, 2, 2, 3])
        self.assertEqual(ways(2, 2, [0, 1], [1, 0]), [4, 4, 2, 0, 2, 2, 3, 0, 3, 2])
        self.assertEqual(ways(2, 2, [1, 0], [1, 0]), [4, 4, 1, 0, 1, 1, 3, 0, 3, 1])
        self.assertEqual(ways(3, 2, [1, 0, 2, 1], [0, 1]), [8, 4, 0, 6, 0, 7, 4, 6, 4, 7])

    def test_begin_is_by_the_one_way_and_end_by_the_other(self):
        self.assertEqual(ways(2, 2, [0, 0], [0, 1]), [4, 4, 0, 2, 0, 3, 1, 2, 1, 3])
        self.assertEqual(ways(2, 2, [1, 1], [0, 1]), [4, 4, 0, 1, 0, 3, 2, 1, 2, 3])

    def test_27_ways(self):
        self.assertEqual(ways(3, 3, [0, 1, 1, 2, 2, 0], [0, 1]), [27, 1, 0, 13])
        self.assertEqual(ways(3, 3, [0, 0, 0, 1, 0, 2], [2, 0]), [27, 9] + flat([(f, 0) for f in range(18, 27)]))
        self.assertEqual(
            ways(3, 3, [0, 2], [2, 0]),
            [27, 81] + flat([(f, g) for f in range(18, 27) for g in range(0, 27, 3)]))

    def test_25_ways(self):
        self.assertEqual(ways(2, 5, [0, 1, 1, 0], [4, 0]), [25, 1, 24, 0])
        self.assertEqual(
            ways(2, 5, [0, 1], [4, 0]),
            [25, 25] + flat([(f, g) for f in range(20, 25) for g in range(0, 25, 5)]))

    def test_16_ways(self):
        self.assertEqual(ways(4, 2, [0, 1, 1, 2, 2, 3, 3, 0], [0, 1]), [16, 1, 0, 15])
        self.assertEqual(ways(2, 4, [0, 1, 1, 0], [3, 1]), [16, 1, 15, 5])

    def test_more_than_27_ways(self):
        self.assertEqual(ways(5, 2, [], []), [-75])
        self.assertEqual(ways(5, 2, complete(5), complete(2)), [-75])
        self.assertEqual(ways(4, 3, [0, 1], [0, 1]), [-75])
        self.assertEqual(ways(3, 4, [0, 1], [0, 1]), [-75])
        self.assertEqual(ways(5, 5, complete(5), complete(5)), [-75])

    def test_all_numbers_of_places(self):
        for n, m in itertools.product((1, 2, 3, 4, 5), repeat=2):
            for first, second in itertools.product(([], [0, 0], [n - 1, 0]), ([], [0, 0], [m - 1, 0])):
                expected = [-75] if m ** n > 27 else by_the_words(n, m, first, second)
                self.assertEqual(ways(n, m, first, second), expected, (n, m, first, second))

    def test_every_pair_of_small_graphs(self):
        for (n, first), (m, second) in itertools.product(small_graphs(), repeat=2):
            self.assertEqual(ways(n, m, first, second), by_the_words(n, m, first, second))

    def test_some_pairs_with_three_places(self):
        some = every_graph(3)[::41]
        for first, second in itertools.product(some, repeat=2):
            self.assertEqual(ways(3, 3, first, second), by_the_words(3, 3, first, second))

    def test_into_all_ways_there_are_as_many_as_of_both_at_once_into_the_second(self):
        for (n, first), (m, second) in itertools.product(small_graphs(), repeat=2):
            made = ways(n, m, first, second)
            for third in every_graph(2):
                at_once = both(2, n, third, first)
                self.assertEqual(
                    count_maps(2, third, made[0], made[2:]),
                    count_maps(at_once[0], at_once[2:], m, second))


if __name__ == "__main__":
    unittest.main()
