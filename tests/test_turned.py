"""Tests of what turned answers (point 2, and what holds of turning)."""

import itertools
import unittest

from graphstogether.graphs import both, turned, ways
from helpers import complete, count_maps, every_graph, small_graphs, turn


class TurnedTest(unittest.TestCase):
    def test_ordinary(self):
        self.assertEqual(turned(2, [0, 1]), [2, 1, 1, 0])
        self.assertEqual(turned(3, [0, 1, 1, 2]), [3, 2, 1, 0, 2, 1])
        self.assertEqual(turned(3, [0, 1, 1, 2, 2, 0]), [3, 3, 0, 2, 1, 0, 2, 1])

    def test_arrows_rise_when_turned(self):
        self.assertEqual(turned(3, [0, 1, 0, 2, 1, 0]), [3, 3, 0, 1, 1, 0, 2, 0])
        self.assertEqual(turned(3, [0, 2, 1, 1, 2, 0]), [3, 3, 0, 2, 1, 1, 2, 0])
        self.assertEqual(turned(4, [0, 3, 1, 2, 2, 1, 2, 2]), [4, 4, 1, 2, 2, 1, 2, 2, 3, 0])
        self.assertEqual(turned(3, [0, 1, 1, 1, 2, 0, 2, 1]), [3, 4, 0, 2, 1, 0, 1, 1, 1, 2])

    def test_one_place(self):
        self.assertEqual(turned(1, []), [1, 0])
        self.assertEqual(turned(1, [0, 0]), [1, 1, 0, 0])

    def test_no_arrows(self):
        for n in (1, 2, 3, 4, 5):
            self.assertEqual(turned(n, []), [n, 0])

    def test_five_places(self):
        self.assertEqual(turned(5, [0, 4]), [5, 1, 4, 0])
        self.assertEqual(turned(5, [0, 1, 0, 4, 3, 0, 4, 4]), [5, 4, 0, 3, 1, 0, 4, 0, 4, 4])

    def test_last_places_without_arrows_count(self):
        self.assertEqual(turned(4, [0, 1]), [4, 1, 1, 0])

    def test_places_numbered_the_other_way_about(self):
        self.assertEqual(turned(2, [1, 0]), [2, 1, 0, 1])
        self.assertEqual(turned(3, [1, 0, 2, 1]), [3, 2, 0, 1, 1, 2])

    def test_arrows_to_themselves_and_to_and_fro_stay(self):
        self.assertEqual(turned(3, [0, 0, 1, 1, 2, 2]), [3, 3, 0, 0, 1, 1, 2, 2])
        self.assertEqual(turned(2, [0, 1, 1, 0]), [2, 2, 0, 1, 1, 0])

    def test_every_arrow(self):
        self.assertEqual(turned(5, complete(5)), [5, 25] + complete(5))

    def test_every_graph_of_up_to_three_places(self):
        for n in (1, 2, 3):
            for first in every_graph(n):
                self.assertEqual(turned(n, first), [n, len(first) // 2] + turn(first))

    def test_turned_twice_is_as_it_was(self):
        for n in (1, 2, 3):
            for first in every_graph(n):
                once = turned(n, first)
                self.assertEqual(turned(once[0], once[2:]), [n, len(first) // 2] + first)
        told = [0, 3, 0, 4, 1, 0, 2, 2, 3, 1, 4, 0]
        self.assertEqual(turned(5, turned(5, told)[2:]), [5, 6] + told)

    def test_turned_about_both_there_are_as_many_maps(self):
        for (n, first), (m, second) in itertools.product(small_graphs(), repeat=2):
            self.assertEqual(
                count_maps(n, turned(n, first)[2:], m, turned(m, second)[2:]),
                count_maps(n, first, m, second))

    def test_what_is_made_of_turned_graphs_is_turned(self):
        for call, (n, first), (m, second) in itertools.product((both, ways), small_graphs(), small_graphs()):
            made = call(n, m, first, second)
            of_turned = call(n, m, turned(n, first)[2:], turned(m, second)[2:])
            self.assertEqual(of_turned, made[:2] + turn(made[2:]))


if __name__ == "__main__":
    unittest.main()
