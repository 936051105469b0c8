"""Tests of what beside and both answer (point 2)."""

import itertools
import unittest

from graphstogether.graphs import beside, both
from helpers import all_arrows, arrow_set, complete, count_maps, flat, small_graphs


class BesideTest(unittest.TestCase):
    def test_ordinary(self):
        self.assertEqual(beside(2, 3, [0, 1], [0, 1, 1, 2]), [5, 3, 0, 1, 2, 3, 3, 4])

    def test_unlike_numbers_of_places(self):
        self.assertEqual(
            beside(3, 2, [0, 1, 1, 2, 2, 0], [0, 0, 1, 0]), [5, 5, 0, 1, 1, 2, 2, 0, 3, 3, 4, 3])
        self.assertEqual(
            beside(2, 3, [0, 0, 1, 0], [0, 1, 1, 2, 2, 0]), [5, 5, 0, 0, 1, 0, 2, 3, 3, 4, 4, 2])

    def test_last_places_without_arrows_count(self):
        self.assertEqual(beside(4, 3, [0, 1], [0, 1]), [7, 2, 0, 1, 4, 5])

    def test_one_place(self):
        self.assertEqual(beside(1, 1, [], []), [2, 0])
        self.assertEqual(beside(1, 1, [0, 0], []), [2, 1, 0, 0])
        self.assertEqual(beside(1, 1, [], [0, 0]), [2, 1, 1, 1])
        self.assertEqual(beside(1, 1, [0, 0], [0, 0]), [2, 2, 0, 0, 1, 1])

    def test_no_arrows(self):
        self.assertEqual(beside(3, 4, [], []), [7, 0])
        self.assertEqual(beside(3, 2, [], [0, 1]), [5, 1, 3, 4])
        self.assertEqual(beside(3, 2, [0, 2], []), [5, 1, 0, 2])

    def test_one_and_five_places(self):
        self.assertEqual(beside(1, 5, [0, 0], [0, 4, 4, 0]), [6, 3, 0, 0, 1, 5, 5, 1])
        self.assertEqual(beside(5, 1, [0, 4, 4, 0], [0, 0]), [6, 3, 0, 4, 4, 0, 5, 5])
        self.assertEqual(beside(5, 5, [], []), [10, 0])

    def test_places_numbered_the_other_way_about(self):
        self.assertEqual(beside(2, 2, [0, 1], [0, 1]), [4, 2, 0, 1, 2, 3])
        self.assertEqual(beside(2, 2, [1, 0], [0, 1]), [4, 2, 1, 0, 2, 3])
        self.assertEqual(beside(2, 2, [0, 1], [1, 0]), [4, 2, 0, 1, 3, 2])
        self.assertEqual(beside(3, 3, [2, 1, 2, 2], [2, 0]), [6, 3, 2, 1, 2, 2, 5, 3])

    def test_every_arrow(self):
        shifted = [place + 5 for place in complete(5)]
        self.assertEqual(beside(5, 5, complete(5), complete(5)), [10, 50] + complete(5) + shifted)

    def test_every_pair_of_small_graphs(self):
        for (n, first), (m, second) in itertools.product(small_graphs(), repeat=2):
            arrows = [
                (p, q) for p, q in all_arrows(n + m)
                if (p < n and q < n and (p, q) in arrow_set(first))
                or (p >= n and q >= n and (p - n, q - n) in arrow_set(second))
            ]
            self.assertEqual(beside(n, m, first, second), [n + m, len(arrows)] + flat(arrows))

    def test_maps_of_both_beside_one_another_are_the_product(self):
        for (n, first), (m, second) in itertools.product(small_graphs(), repeat=2):
            made = beside(n, m, first, second)
            for third in ([], [0, 1], [0, 0, 1, 0], [0, 1, 1, 0]):
                self.assertEqual(
                    count_maps(made[0], made[2:], 2, third),
                    count_maps(n, first, 2, third) * count_maps(m, second, 2, third))


class BothTest(unittest.TestCase):
    def test_ordinary(self):
        self.assertEqual(both(2, 3, [0, 1], [0, 1, 1, 2]), [6, 2, 0, 4, 1, 5])

    def test_arrows_rise_though_the_parts_interleave(self):
        self.assertEqual(
            both(2, 2, [0, 0, 0, 1], [0, 1, 1, 0]), [4, 4, 0, 1, 0, 3, 1, 0, 1, 2])

    def test_unlike_numbers_of_places(self):
        self.assertEqual(both(3, 2, [0, 1, 2, 0], [1, 0]), [6, 2, 1, 2, 5, 0])
        self.assertEqual(both(2, 3, [1, 0], [0, 1, 2, 0]), [6, 2, 3, 1, 5, 0])

    def test_one_place(self):
        self.assertEqual(both(1, 1, [], []), [1, 0])
        self.assertEqual(both(1, 1, [0, 0], []), [1, 0])
        self.assertEqual(both(1, 1, [], [0, 0]), [1, 0])
        self.assertEqual(both(1, 1, [0, 0], [0, 0]), [1, 1, 0, 0])

    def test_one_place_with_an_arrow_leaves_the_other_as_it_was(self):
        for places, told in small_graphs():
            expected = [places, len(told) // 2] + told
            self.assertEqual(both(1, places, [0, 0], told), expected)
            self.assertEqual(both(places, 1, told, [0, 0]), expected)

    def test_no_arrows(self):
        self.assertEqual(both(3, 4, [], []), [12, 0])
        self.assertEqual(both(3, 2, [], [0, 0, 0, 1]), [6, 0])
        self.assertEqual(both(3, 2, [0, 2], []), [6, 0])

    def test_one_and_five_places(self):
        self.assertEqual(both(1, 5, [0, 0], [0, 4, 4, 0]), [5, 2, 0, 4, 4, 0])
        self.assertEqual(both(5, 1, [0, 4, 4, 0], []), [5, 0])
        self.assertEqual(both(5, 5, [], []), [25, 0])
        self.assertEqual(both(5, 5, [4, 3], [0, 4]), [25, 1, 20, 19])

    def test_places_numbered_the_other_way_about(self):
        self.assertEqual(both(2, 2, [0, 1], [0, 1]), [4, 1, 0, 3])
        self.assertEqual(both(2, 2, [1, 0], [0, 1]), [4, 1, 2, 1])
        self.assertEqual(both(2, 2, [0, 1], [1, 0]), [4, 1, 1, 2])
        self.assertEqual(both(2, 2, [1, 0], [1, 0]), [4, 1, 3, 0])

    def test_an_arrow_of_one_alone_is_none_of_both(self):
        # The second has no arrow to itself at place 1: the pair (0, 1) has none either.
        self.assertEqual(both(1, 2, [0, 0], [0, 0]), [2, 1, 0, 0])
        self.assertEqual(both(2, 1, [0, 1], []), [2, 0])
        self.assertEqual(both(1, 2, [], [0, 1]), [2, 0])

    def test_every_arrow(self):
        self.assertEqual(both(5, 5, complete(5), complete(5)), [25, 625] + complete(25))

    def test_every_pair_of_small_graphs(self):
        for (n, first), (m, second) in itertools.product(small_graphs(), repeat=2):
            arrows = [
                (p, q) for p, q in all_arrows(n * m)
                if (p // m, q // m) in arrow_set(first) and (p % m, q % m) in arrow_set(second)
            ]
            self.assertEqual(both(n, m, first, second), [n * m, len(arrows)] + flat(arrows))

    def test_maps_into_both_at_once_are_the_product(self):
        for (n, first), (m, second) in itertools.product(small_graphs(), repeat=2):
            made = both(n, m, first, second)
            for third in ([], [0, 1], [0, 0, 1, 0], [0, 1, 1, 0]):
                self.assertEqual(
                    count_maps(2, third, made[0], made[2:]),
                    count_maps(2, third, n, first) * count_maps(2, third, m, second))


if __name__ == "__main__":
    unittest.main()
