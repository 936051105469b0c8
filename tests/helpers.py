"""What the tests share: graphs, lists that tell no graph, and counting by the document's words."""

import itertools

MOST = 4294967295

# Graphs of three places.
PATH = [0, 1, 1, 2]
CYCLE = [0, 1, 1, 2, 2, 0]
OUTWARD = [0, 1, 0, 2]
INWARD = [1, 0, 2, 0]


def all_arrows(places):
    return list(itertools.product(range(places), repeat=2))


def flat(arrows):
    return [number for arrow in arrows for number in arrow]


def every_graph(places):
    """All graphs with so many places, each as the list that tells it."""
    pairs = all_arrows(places)
    return [
        flat(chosen)
        for size in range(len(pairs) + 1)
        for chosen in itertools.combinations(pairs, size)
    ]


def small_graphs():
    return [(places, told) for places in (1, 2) for told in every_graph(places)]


def arrow_set(told):
    return set(zip(told[0::2], told[1::2]))


def count_maps(places, told, target_places, target_told):
    arrows, targets = arrow_set(told), arrow_set(target_told)
    return sum(
        all((given[u], given[v]) in targets for u, v in arrows)
        for given in itertools.product(range(target_places), repeat=places)
    )


def turn(told):
    """The arrows turned about."""
    return flat(sorted(zip(told[1::2], told[0::2])))


def other_way_about(places, told):
    """The same graph with its places numbered the other way about."""
    return flat(sorted((places - 1 - u, places - 1 - v) for u, v in arrow_set(told)))


def complete(places):
    return flat(all_arrows(places))


def without_own(places):
    """Every arrow but those from a place to itself."""
    return flat((u, v) for u, v in all_arrows(places) if u != v)


def some_of_three_places():
    """Few enough to be taken three at a time in every way."""
    return [(3, told) for told in [[], PATH, CYCLE] + every_graph(3)[3::80]]


def some_triples():
    """Three graphs each, of like and unlike numbers of places: all of 1 or 2 places, some of 3 places."""
    small, three = small_graphs(), some_of_three_places()
    yield from itertools.product(small, repeat=3)
    yield from itertools.product(three, repeat=3)
    yield from itertools.product(three, small[::5], small[::5])
    yield from itertools.product(small[::5], three, small[::5])
    yield from itertools.product(small[::5], small[::5], three)


NO_GRAPHS = (
    ("no places", 0, []),
    ("no places, but an arrow", 0, [0, 0]),
    ("six places", 6, []),
    ("six places and an arrow", 6, [0, 5]),
    ("as many places as can be told", MOST, []),
    ("as many places as can be told, and an arrow", MOST, [0, 1]),
    ("one number", 2, [0]),
    ("odd length", 2, [0, 0, 1]),
    ("odd length, the last one too great", 2, [0, 1, 2]),
    ("from a place that isn't there", 2, [2, 0]),
    ("to a place that isn't there", 2, [0, 2]),
    ("from a place far off", 5, [0, 1, MOST, 0]),
    ("to a place far off", 5, [0, 1, 1, MOST]),
    ("of five places, to the sixth", 5, [4, 5]),
    ("of one place, to a second", 1, [0, 1]),
    ("an arrow twice", 3, [0, 1, 0, 1]),
    ("the last arrow twice", 3, [0, 1, 1, 2, 1, 2]),
    ("an arrow to itself twice", 1, [0, 0, 0, 0]),
    ("falling by the first", 3, [1, 0, 0, 1]),
    ("falling by the second", 3, [1, 2, 1, 0]),
    ("falling at the end", 3, [0, 0, 1, 1, 2, 2, 2, 1]),
    ("an arrow twice, not side by side", 3, [0, 1, 1, 0, 0, 1]),
    ("60 numbers, all zero", 5, [0] * 60),
    ("60 numbers that rise", 5, complete(6)[:60]),
    ("60 numbers, every arrow and five again", 5, complete(5) + complete(5)[:10]),
    ("60 numbers as great as can be", 5, [MOST] * 60),
)

GRAPHS = ((1, []), (1, [0, 0]), (3, [0, 1, 1, 2, 2, 0]), (5, complete(5)))
