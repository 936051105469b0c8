"""Tests of what countbeside answers, and of when there are too many places (point 3)."""

import itertools
import unittest

from graphstogether.graphs import countbeside
from helpers import (
    CYCLE, INWARD, OUTWARD, PATH, complete, count_maps, other_way_about, some_triples, turn, without_own)


def by_the_words(n, m, o, first, second, third):
    made = first + [n + place for place in second]
    return [
        count_maps(n + m, made, o, third),
        count_maps(n, first, o, third),
        count_maps(m, second, o, third),
    ]


class CountBesideTest(unittest.TestCase):
    def test_ordinary(self):
        self.assertEqual(countbeside(2, 3, 3, [0, 1], PATH, PATH), [2, 2, 1])
        self.assertEqual(countbeside(3, 3, 3, PATH, CYCLE, CYCLE), [9, 3, 3])
        self.assertEqual(countbeside(2, 2, 3, [0, 1], [0, 1, 1, 0], [0, 1, 1, 0, 1, 2]), [6, 3, 2])
        self.assertEqual(countbeside(2, 1, 3, [0, 1], [0, 0], [0, 1, 1, 1, 1, 2]), [3, 3, 1])
        self.assertEqual(countbeside(3, 2, 4, without_own(3), [0, 1], without_own(4)), [288, 24, 12])

    def test_first_alone_comes_ahead_of_second_alone(self):
        self.assertEqual(countbeside(3, 2, 3, PATH, [0, 1], PATH), [2, 1, 2])
        self.assertEqual(countbeside(2, 3, 3, [0, 1], PATH, PATH), [2, 2, 1])

    def test_one_place(self):
        self.assertEqual(countbeside(1, 1, 1, [], [], []), [1, 1, 1])
        self.assertEqual(countbeside(1, 1, 1, [0, 0], [], []), [0, 0, 1])
        self.assertEqual(countbeside(1, 1, 1, [], [0, 0], []), [0, 1, 0])
        self.assertEqual(countbeside(1, 1, 1, [0, 0], [0, 0], []), [0, 0, 0])
        self.assertEqual(countbeside(1, 1, 1, [], [], [0, 0]), [1, 1, 1])
        self.assertEqual(countbeside(1, 1, 1, [0, 0], [], [0, 0]), [1, 1, 1])
        self.assertEqual(countbeside(1, 1, 1, [], [0, 0], [0, 0]), [1, 1, 1])
        self.assertEqual(countbeside(1, 1, 1, [0, 0], [0, 0], [0, 0]), [1, 1, 1])

    def test_third_of_one_place(self):
        self.assertEqual(countbeside(3, 2, 1, CYCLE, [0, 1], [0, 0]), [1, 1, 1])
        self.assertEqual(countbeside(3, 2, 1, CYCLE, [], []), [0, 0, 1])
        self.assertEqual(countbeside(3, 2, 1, [], [0, 1], []), [0, 1, 0])

    def test_arrows_to_themselves(self):
        self.assertEqual(countbeside(1, 1, 3, [0, 0], [], [0, 0, 2, 2]), [6, 2, 3])
        self.assertEqual(countbeside(1, 3, 2, [0, 0], CYCLE, [0, 0, 0, 1]), [1, 1, 1])

    def test_no_arrows_in_one(self):
        self.assertEqual(countbeside(3, 2, 3, [], [0, 1], PATH), [54, 27, 2])
        self.assertEqual(countbeside(2, 3, 3, [0, 1], [], PATH), [54, 2, 27])
        self.assertEqual(countbeside(2, 2, 3, [0, 1], [1, 0], []), [0, 0, 0])

    def test_no_arrows_in_two(self):
        self.assertEqual(countbeside(2, 3, 3, [], [], [0, 1]), [243, 9, 27])
        self.assertEqual(countbeside(2, 3, 3, [], [0, 1], []), [0, 9, 0])
        self.assertEqual(countbeside(3, 2, 3, [0, 1], [], []), [0, 0, 9])

    def test_no_arrows_in_all_three(self):
        self.assertEqual(countbeside(3, 2, 4, [], [], []), [1024, 64, 16])
        self.assertEqual(countbeside(2, 3, 4, [], [], []), [1024, 16, 64])

    def test_places_numbered_the_other_way_about(self):
        self.assertEqual(countbeside(2, 2, 2, [1, 0], [0, 1], [1, 0]), [1, 1, 1])
        self.assertEqual(countbeside(3, 3, 3, PATH, [1, 0, 2, 1], PATH), [1, 1, 1])
        self.assertEqual(countbeside(3, 3, 3, OUTWARD, INWARD, OUTWARD), [8, 4, 2])
        self.assertEqual(countbeside(3, 3, 3, [2, 0, 2, 1], [0, 2, 1, 2], OUTWARD), [8, 4, 2])
        self.assertEqual(countbeside(3, 3, 3, OUTWARD, INWARD, [2, 0, 2, 1]), [8, 4, 2])

    def test_an_arrow_that_is_of_one_graph_alone(self):
        self.assertEqual(countbeside(1, 1, 2, [0, 0], [], [0, 0]), [2, 1, 2])
        self.assertEqual(countbeside(1, 1, 2, [], [0, 0], [0, 0]), [2, 2, 1])
        self.assertEqual(countbeside(2, 2, 2, [0, 1], [1, 0], [0, 1]), [1, 1, 1])
        # No arrow leads from the first's places to the second's, so these are given places freely.
        self.assertEqual(countbeside(2, 2, 3, [0, 1], [], [0, 1]), [9, 1, 9])

    def test_unlike_numbers_of_places(self):
        self.assertEqual(countbeside(1, 2, 3, [], [0, 1], PATH), [6, 3, 2])
        self.assertEqual(countbeside(3, 1, 2, PATH, [0, 0], [0, 1, 1, 1]), [2, 2, 1])
        self.assertEqual(countbeside(2, 3, 1, [0, 1], CYCLE, [0, 0]), [1, 1, 1])
        self.assertEqual(countbeside(3, 2, 5, PATH, [0, 1], [0, 1, 1, 2, 2, 3, 3, 4]), [12, 3, 4])

    def test_no_map_at_all(self):
        self.assertEqual(countbeside(3, 1, 2, CYCLE, [], [0, 1, 1, 0]), [0, 0, 2])
        self.assertEqual(countbeside(1, 3, 2, [], CYCLE, [0, 1, 1, 0]), [0, 2, 0])
        self.assertEqual(countbeside(3, 3, 2, CYCLE, CYCLE, [0, 1, 1, 0]), [0, 0, 0])
        self.assertEqual(countbeside(1, 1, 3, [0, 0], [0, 0], PATH), [0, 0, 0])

    def test_as_many_places_as_are_answered(self):
        self.assertEqual(countbeside(3, 3, 5, [], [], []), [15625, 125, 125])
        self.assertEqual(countbeside(3, 3, 5, complete(3), complete(3), complete(5)), [15625, 125, 125])
        self.assertEqual(countbeside(3, 3, 5, without_own(3), PATH, without_own(5)), [4800, 60, 80])
        self.assertEqual(countbeside(3, 3, 5, PATH, INWARD, [0, 1, 1, 2, 2, 3, 3, 4]), [12, 3, 4])
        self.assertEqual(countbeside(3, 3, 5, CYCLE, CYCLE, [4, 4]), [1, 1, 1])

    def test_first_or_second_with_more_than_3_places(self):
        for o in (1, 2, 3, 4, 5):
            for few, many in itertools.product((1, 2, 3), (4, 5)):
                for third in ([], [0, 0], complete(o)):
                    self.assertEqual(countbeside(many, few, o, [], [], third), [-75])
                    self.assertEqual(countbeside(few, many, o, [], [], third), [-75])
                    self.assertEqual(countbeside(many, few, o, complete(many), [0, 0], third), [-75])
                    self.assertEqual(countbeside(few, many, o, [0, 0], complete(many), third), [-75])
            for n, m in itertools.product((4, 5), repeat=2):
                self.assertEqual(countbeside(n, m, o, [0, 1], [1, 0], complete(o)), [-75])

    def test_all_numbers_of_places(self):
        for n, m, o in itertools.product((1, 2, 3, 4, 5), repeat=3):
            refused = n > 3 or m > 3
            freely = [-75] if refused else [o ** (n + m), o ** n, o ** m]
            self.assertEqual(countbeside(n, m, o, [], [], []), freely, (n, m, o))
            to_the_last = [-75] if refused else [1, 1, 1]
            self.assertEqual(
                countbeside(n, m, o, complete(n), complete(m), [o - 1, o - 1]), to_the_last, (n, m, o))

    def test_many_graphs_by_the_words(self):
        for (n, first), (m, second), (o, third) in some_triples():
            handed = (n, m, o, first, second, third)
            self.assertEqual(countbeside(*handed), by_the_words(*handed), handed)

    def test_of_both_there_are_as_many_as_of_the_one_times_of_the_other(self):
        for (n, first), (m, second), (o, third) in some_triples():
            answered = countbeside(n, m, o, first, second, third)
            self.assertEqual(len(answered), 3)
            self.assertEqual(answered[0], answered[1] * answered[2], (first, second, third))

    def test_turned_about_there_are_as_many(self):
        for (n, first), (m, second), (o, third) in some_triples():
            self.assertEqual(
                countbeside(n, m, o, turn(first), turn(second), turn(third)),
                countbeside(n, m, o, first, second, third))

    def test_any_one_numbered_the_other_way_about_there_are_as_many(self):
        for (n, first), (m, second), (o, third) in some_triples():
            answered = countbeside(n, m, o, first, second, third)
            self.assertEqual(countbeside(n, m, o, other_way_about(n, first), second, third), answered)
            self.assertEqual(countbeside(n, m, o, first, other_way_about(m, second), third), answered)
            self.assertEqual(countbeside(n, m, o, first, second, other_way_about(o, third)), answered)


if __name__ == "__main__":
    unittest.main()
