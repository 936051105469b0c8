"""Tests of what countboth answers, and of when there are too many places (point 3)."""

import itertools
import unittest

from graphstogether.graphs import countboth
from helpers import (
    CYCLE, INWARD, OUTWARD, PATH, all_arrows, arrow_set, complete, count_maps, flat, other_way_about,
    some_triples, turn, without_own)


def by_the_words(n, m, o, first, second, third):
    one, other = arrow_set(first), arrow_set(second)
    made = flat(
        (p, q) for p, q in all_arrows(n * m)
        if (p // m, q // m) in one and (p % m, q % m) in other
    )
    return [
        count_maps(o, third, n * m, made),
        count_maps(o, third, n, first),
        count_maps(o, third, m, second),
    ]


class CountBothTest(unittest.TestCase):
    def test_ordinary(self):
        self.assertEqual(countboth(2, 3, 2, [0, 1], PATH, [0, 1]), [2, 1, 2])
        self.assertEqual(countboth(3, 2, 2, CYCLE, [0, 1, 1, 0], [0, 1]), [6, 3, 2])
        self.assertEqual(countboth(3, 3, 2, PATH, CYCLE, [0, 1]), [6, 2, 3])
        self.assertEqual(countboth(3, 2, 3, OUTWARD, [0, 0, 0, 1], OUTWARD), [16, 4, 4])
        self.assertEqual(countboth(2, 2, 3, [0, 0, 0, 1], [0, 1, 1, 1], PATH), [4, 2, 2])

    def test_into_the_first_alone_comes_ahead_of_into_the_second_alone(self):
        self.assertEqual(countboth(3, 2, 2, PATH, [0, 1], [0, 1]), [2, 2, 1])
        self.assertEqual(countboth(2, 3, 2, [0, 1], PATH, [0, 1]), [2, 1, 2])

    def test_one_place(self):
        self.assertEqual(countboth(1, 1, 1, [], [], []), [1, 1, 1])
        self.assertEqual(countboth(1, 1, 1, [0, 0], [], []), [1, 1, 1])
        self.assertEqual(countboth(1, 1, 1, [], [0, 0], []), [1, 1, 1])
        self.assertEqual(countboth(1, 1, 1, [0, 0], [0, 0], []), [1, 1, 1])
        self.assertEqual(countboth(1, 1, 1, [], [], [0, 0]), [0, 0, 0])
        self.assertEqual(countboth(1, 1, 1, [0, 0], [], [0, 0]), [0, 1, 0])
        self.assertEqual(countboth(1, 1, 1, [], [0, 0], [0, 0]), [0, 0, 1])
        self.assertEqual(countboth(1, 1, 1, [0, 0], [0, 0], [0, 0]), [1, 1, 1])

    def test_first_or_second_of_one_place(self):
        self.assertEqual(countboth(1, 3, 2, [0, 0], PATH, [0, 1]), [2, 1, 2])
        self.assertEqual(countboth(3, 1, 2, PATH, [0, 0], [0, 1]), [2, 2, 1])
        self.assertEqual(countboth(1, 3, 2, [], PATH, [0, 1]), [0, 0, 2])
        self.assertEqual(countboth(3, 1, 2, PATH, [], [0, 1]), [0, 2, 0])

    def test_no_arrows_in_one(self):
        self.assertEqual(countboth(2, 3, 2, [], [0, 1], [0, 1]), [0, 0, 1])
        self.assertEqual(countboth(2, 3, 2, [0, 1], [], [0, 1]), [0, 1, 0])
        self.assertEqual(countboth(2, 3, 2, [0, 1], PATH, []), [36, 4, 9])

    def test_no_arrows_in_two(self):
        self.assertEqual(countboth(2, 3, 2, [], [], [0, 1]), [0, 0, 0])
        self.assertEqual(countboth(3, 2, 2, [], [0, 1], []), [36, 9, 4])
        self.assertEqual(countboth(3, 1, 2, [0, 1], [], []), [9, 9, 1])

    def test_no_arrows_in_all_three(self):
        self.assertEqual(countboth(3, 2, 3, [], [], []), [216, 27, 8])
        self.assertEqual(countboth(2, 3, 3, [], [], []), [216, 8, 27])

    def test_places_numbered_the_other_way_about(self):
        self.assertEqual(countboth(2, 2, 2, [0, 1], [1, 0], [0, 1]), [1, 1, 1])
        self.assertEqual(countboth(3, 3, 3, PATH, [1, 0, 2, 1], PATH), [1, 1, 1])
        self.assertEqual(countboth(3, 3, 3, OUTWARD, INWARD, OUTWARD), [8, 4, 2])
        self.assertEqual(countboth(3, 3, 3, [2, 0, 2, 1], [0, 2, 1, 2], OUTWARD), [8, 4, 2])
        self.assertEqual(countboth(3, 3, 3, OUTWARD, INWARD, [2, 0, 2, 1]), [8, 4, 2])
        self.assertEqual(countboth(3, 3, 3, OUTWARD, INWARD, INWARD), [8, 2, 4])

    def test_an_arrow_that_is_of_one_graph_alone(self):
        self.assertEqual(countboth(1, 2, 1, [0, 0], [0, 0], [0, 0]), [1, 1, 1])
        self.assertEqual(countboth(2, 2, 1, [0, 0], [1, 1], [0, 0]), [1, 1, 1])
        self.assertEqual(countboth(2, 2, 2, [0, 1, 1, 0], [0, 1], [0, 1, 1, 0]), [0, 2, 0])
        self.assertEqual(countboth(2, 2, 2, [0, 1], [0, 1, 1, 0], [0, 1, 1, 0]), [0, 0, 2])
        self.assertEqual(countboth(2, 2, 2, [0, 0, 0, 1], [0, 0, 1, 0], [0, 1]), [4, 2, 2])

    def test_unlike_numbers_of_places(self):
        self.assertEqual(countboth(1, 2, 3, [0, 0], [0, 1, 1, 1], PATH), [2, 1, 2])
        self.assertEqual(countboth(2, 3, 1, [0, 0], [0, 0, 1, 1], [0, 0]), [2, 1, 2])
        self.assertEqual(countboth(3, 1, 2, CYCLE, [0, 0], [1, 0]), [3, 3, 1])
        self.assertEqual(countboth(3, 2, 1, CYCLE, [0, 1], []), [6, 3, 2])

    def test_no_map_at_all(self):
        self.assertEqual(countboth(2, 3, 3, [0, 1, 1, 0], CYCLE, CYCLE), [0, 0, 3])
        self.assertEqual(countboth(3, 2, 3, CYCLE, [0, 1, 1, 0], CYCLE), [0, 3, 0])
        self.assertEqual(countboth(2, 2, 3, [0, 1, 1, 0], [0, 1], CYCLE), [0, 0, 0])
        self.assertEqual(countboth(3, 3, 1, PATH, CYCLE, [0, 0]), [0, 0, 0])

    def test_as_many_places_as_are_answered(self):
        self.assertEqual(countboth(3, 3, 3, [], [], []), [729, 27, 27])
        self.assertEqual(countboth(3, 3, 3, complete(3), complete(3), complete(3)), [729, 27, 27])
        self.assertEqual(countboth(3, 3, 3, without_own(3), complete(3), without_own(3)), [162, 6, 27])
        self.assertEqual(countboth(3, 3, 3, CYCLE, without_own(3), PATH), [36, 3, 12])
        self.assertEqual(countboth(3, 3, 3, [2, 2], [1, 1], CYCLE), [1, 1, 1])

    def test_one_with_more_than_3_places(self):
        for n, m, o in itertools.product((1, 2, 3, 4, 5), repeat=3):
            if n > 3 or m > 3 or o > 3:
                for first, second, third in itertools.product(
                        ([], complete(n)), ([], complete(m)), ([], complete(o))):
                    self.assertEqual(countboth(n, m, o, first, second, third), [-75], (n, m, o))

    def test_all_numbers_of_places(self):
        for n, m, o in itertools.product((1, 2, 3, 4, 5), repeat=3):
            refused = n > 3 or m > 3 or o > 3
            freely = [-75] if refused else [(n * m) ** o, n ** o, m ** o]
            self.assertEqual(countboth(n, m, o, [], [], []), freely, (n, m, o))
            to_the_last = [-75] if refused else [1, 1, 1]
            self.assertEqual(
                countboth(n, m, o, [n - 1, n - 1], [m - 1, m - 1], complete(o)), to_the_last, (n, m, o))

    def test_many_graphs_by_the_words(self):
        for (n, first), (m, second), (o, third) in some_triples():
            handed = (n, m, o, first, second, third)
            self.assertEqual(countboth(*handed), by_the_words(*handed), handed)

    def test_into_both_there_are_as_many_as_into_the_one_times_into_the_other(self):
        for (n, first), (m, second), (o, third) in some_triples():
            answered = countboth(n, m, o, first, second, third)
            self.assertEqual(len(answered), 3)
            self.assertEqual(answered[0], answered[1] * answered[2], (first, second, third))

    def test_turned_about_there_are_as_many(self):
        for (n, first), (m, second), (o, third) in some_triples():
            self.assertEqual(
                countboth(n, m, o, turn(first), turn(second), turn(third)),
                countboth(n, m, o, first, second, third))

    def test_any_one_numbered_the_other_way_about_there_are_as_many(self):
        for (n, first), (m, second), (o, third) in some_triples():
            answered = countboth(n, m, o, first, second, third)
            self.assertEqual(countboth(n, m, o, other_way_about(n, first), second, third), answered)
            self.assertEqual(countboth(n, m, o, first, other_way_about(m, second), third), answered)
            self.assertEqual(countboth(n, m, o, first, second, other_way_about(o, third)), answered)


if __name__ == "__main__":
    unittest.main()
