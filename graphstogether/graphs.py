"""Graphs that are made of two graphs, or of one, and how many maps lead into them or from them.

A graph is handed in as how many places it has and a flat list, two numbers for each arrow.
Within this file an arrow is a pair: from where, to where.
"""

NO_GRAPH = -22
TOO_MANY = -75
MOST_PLACES = 5
MOST_WAYS = 27
MOST_COUNTED_PLACES = 3
MOST_PLACES_INTO_WAYS = 2


def beside(n, m, first, second):
    """Answer the graph that has the first's places and, behind them, the second's, with all arrows of both."""
    if not (is_graph(n, first) and is_graph(m, second)):
        return [NO_GRAPH]
    return answer(n + m, arrows_beside(n, arrows_of(first), arrows_of(second)))


def both(n, m, first, second):
    """Answer the graph of pairs of places, in which an arrow needs one of the first and one of the second."""
    if not (is_graph(n, first) and is_graph(m, second)):
        return [NO_GRAPH]
    return answer(n * m, arrows_at_once(m, arrows_of(first), arrows_of(second)))


def ways(n, m, first, second):
    """Answer the graph of all ways to give each place of the first one of the second's."""
    if not (is_graph(n, first) and is_graph(m, second)):
        return [NO_GRAPH]
    if number_of_ways(n, m) > MOST_WAYS:
        return [TOO_MANY]
    every_way = all_ways(n, m)
    return answer(len(every_way), arrows_between(every_way, arrows_of(first), arrows_of(second)))


def turned(n, first):
    """Answer the graph in which each arrow leads the other way."""
    if not is_graph(n, first):
        return [NO_GRAPH]
    # The arrows rise by where they began, which is where they end now.
    return answer(n, sorted([(v, u) for u, v in arrows_of(first)]))


def countbeside(n, m, o, first, second, third):
    """Answer how many maps into the third there are: of both, beside one another, then of each alone."""
    if not (is_graph(n, first) and is_graph(m, second) and is_graph(o, third)):
        return [NO_GRAPH]
    if n > MOST_COUNTED_PLACES or m > MOST_COUNTED_PLACES:
        return [TOO_MANY]
    one = arrows_of(first)
    other = arrows_of(second)
    targets = arrows_of(third)
    return [
        count_maps(n + m, arrows_beside(n, one, other), o, targets),
        count_maps(n, one, o, targets),
        count_maps(m, other, o, targets),
    ]


def countboth(n, m, o, first, second, third):
    """Answer how many maps of the third there are: into both at once, then into each alone."""
    if not (is_graph(n, first) and is_graph(m, second) and is_graph(o, third)):
        return [NO_GRAPH]
    if n > MOST_COUNTED_PLACES or m > MOST_COUNTED_PLACES or o > MOST_COUNTED_PLACES:
        return [TOO_MANY]
    one = arrows_of(first)
    other = arrows_of(second)
    arrows = arrows_of(third)
    return [
        count_maps(o, arrows, n * m, arrows_at_once(m, one, other)),
        count_maps(o, arrows, n, one),
        count_maps(o, arrows, m, other),
    ]


def countways(n, m, o, first, second, third):
    """Answer how many maps of the third into all ways there are, then of third and first at once into the second."""
    if not (is_graph(n, first) and is_graph(m, second) and is_graph(o, third)):
        return [NO_GRAPH]
    # That there are no more than MOST_WAYS needn't be asked: of 3 places each there are just so many.
    if o > MOST_PLACES_INTO_WAYS or n > MOST_COUNTED_PLACES or m > MOST_COUNTED_PLACES:
        return [TOO_MANY]
    one = arrows_of(first)
    other = arrows_of(second)
    arrows = arrows_of(third)
    every_way = all_ways(n, m)
    return [
        count_maps(o, arrows, len(every_way), arrows_between(every_way, one, other)),
        count_maps(o * n, arrows_at_once(n, arrows, one), m, other),
    ]


def arrows_beside(n, one, other):
    """Give the arrows of two graphs beside one another, of which the one has n places, rising."""
    # Every place of the other comes behind every one of the one, so the arrows rise as they stand.
    return one + [(n + u, n + v) for u, v in other]


def arrows_at_once(m, one, other):
    """Give the arrows of two graphs both at once, of which the other has m places, rising."""
    arrows = []
    for u, u_end in one:
        for v, v_end in other:
            arrows.append((u * m + v, u_end * m + v_end))
    # The loops go by where the one's arrow ends before they go by where the other's begins.
    return sorted(arrows)


def count_maps(places, arrows, target_places, targets):
    """Tell how many maps of one graph into another there are."""
    every_way = all_ways(places, target_places)
    return len([way for way in every_way if leads(way, way, arrows, targets)])


def number_of_ways(n, m):
    """Tell how many ways there are to give each of n places one of m."""
    count = 1
    for place in range(n):
        count = count * m
    return count


def all_ways(n, m):
    """Give every way to give each of n places one of m, in order by the first place at which they differ."""
    every_way = [[]]
    for place in range(n):
        longer = []
        for way in every_way:
            longer.extend([way + [given] for given in range(m)])
        every_way = longer
    return every_way


def arrows_between(every_way, arrows, targets):
    """Give the arrows from way to way, each way by its number, rising."""
    between = []
    for k, one in enumerate(every_way):
        for j, other in enumerate(every_way):
            if leads(one, other, arrows, targets):
                between.append((k, j))
    return between


def leads(one, other, arrows, targets):
    """Tell whether each arrow becomes one of the targets: its begin by the one way, its end by the other."""
    for u, v in arrows:
        if (one[u], other[v]) not in targets:
            return False
    return True


def is_graph(places, told):
    """Tell whether a graph that is handed in is one."""
    # How many places there are may be any number below 2^32, so it is only compared, never counted up to.
    if places < 1 or places > MOST_PLACES or len(told) % 2 != 0:
        return False
    return all([place < places for place in told]) and is_rising(arrows_of(told))


def is_rising(arrows):
    """Tell whether each arrow is greater than the one ahead of it, so that none is there twice."""
    return all([arrows[k - 1] < arrows[k] for k in range(1, len(arrows))])


def arrows_of(told):
    """Give the arrows of a flat list of even length."""
    return [(told[k], told[k + 1]) for k in range(0, len(told), 2)]


def answer(places, arrows):
    """Give a made graph as it is answered: how many places, how many arrows, and these."""
    numbers = [places, len(arrows)]
    for begin, end in arrows:
        numbers.extend([begin, end])
    return numbers
