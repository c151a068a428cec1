"""What several test files need: rows of colours, and answers worked out another way than the program does."""

import itertools

LARGEST = 4294967295


class NoChanges(list):
    """A list that fails on any change."""

    def refuse(self, *args, **kwargs):
        raise AssertionError("the list that was handed in is changed")

    append = clear = extend = insert = pop = remove = reverse = sort = refuse
    __setitem__ = __delitem__ = __iadd__ = __imul__ = refuse


def places(m):
    return [(i, j) for j in range(m + 1) for i in range(m + 1 - j)]


def allowed(m, place):
    i, j = place
    return [colour for colour, number in enumerate((i, j, m - i - j)) if number != 0]


def is_inner(m, place):
    return len(allowed(m, place)) == 3


def all_rows(m):
    """Each row of fair colours of the size."""
    for row in itertools.product(*[allowed(m, place) for place in places(m)]):
        yield list(row)


def row_with(m, given, wished=(2, 1, 0)):
    """Fair colours: the given ones at their places, elsewhere the first that is wished for and allowed."""
    row = []
    for place in places(m):
        chosen = [colour for colour in wished if colour in allowed(m, place)][0]
        row.append(given.get(place, chosen))
    return row


def mixed_rows(m, how_many):
    """The same fair rows each time, without a plain pattern."""
    state = 12345
    for _ in range(how_many):
        row = []
        for place in places(m):
            state = (state * 1103515245 + 12345) % 2147483648
            choice = allowed(m, place)
            row.append(choice[(state >> 16) % len(choice)])
        yield row


def side_row(m, colours):
    """Fair colours with these, from (0, m) to (m, 0), along the side that has the outer sides, and 2 elsewhere."""
    return row_with(m, {(i, m - i): colour for i, colour in enumerate(colours)})


def inner_row(m, colour, wished):
    """Fair colours with this one at all inner places."""
    return row_with(m, {place: colour for place in places(m) if is_inner(m, place)}, wished)


def comb_row(m):
    """Teeth of 1 from one side and teeth of 0 from the other, row by row, so that one line winds through them all."""
    row = []
    for i, j in places(m):
        if i == 0:
            row.append(1 if j > 0 else 2)
        else:
            row.append(1 if j % 2 == 1 and i + j < m else 0)
    return row


def numbered_rooms(m):
    """The corners of each room as a set, in the order of the rooms."""
    listed = []
    for j in range(m):
        for turn in range(2 * (m - j) - 1):
            i = turn // 2
            if turn % 2 == 0:
                listed.append(frozenset([(i, j), (i + 1, j), (i, j + 1)]))
            else:
                listed.append(frozenset([(i + 1, j + 1), (i, j + 1), (i + 1, j)]))
    return listed


def goes_left(a, b, c):
    """Whether one who goes from a to b has c on the left."""
    return (b[0] - a[0]) * (c[1] - a[1]) - (b[1] - a[1]) * (c[0] - a[0]) > 0


def expected_found(m, row):
    """By where the corners lie: from the 0 to the 1 the 2 is on the left, or it isn't."""
    colour = dict(zip(places(m), row))
    told = []
    for number, room in enumerate(numbered_rooms(m)):
        corners = sorted(room, key=colour.get)
        if [colour[corner] for corner in corners] == [0, 1, 2]:
            told.append([number, 1 if goes_left(*corners) else 2])
    return [len(told)] + sum(told, [])


def expected_lines(m, row):
    """Door by door: from a 0 to a 1 the door leads into what lies on the left, out of what lies on the right."""
    colour = dict(zip(places(m), row))
    listed = numbered_rooms(m)
    outer = {frozenset([(i + 1, m - i - 1), (i, m - i)]): len(listed) + i for i in range(m)}
    after = [0] * (len(listed) + m)
    before = [0] * (len(listed) + m)
    for side in {frozenset(pair) for room in listed for pair in itertools.combinations(room, 2)}:
        start, stop = sorted(side, key=colour.get)
        if (colour[start], colour[stop]) != (0, 1):
            continue
        left = right = outer.get(side)
        for number, room in enumerate(listed):
            if side < room:
                third, = room - side
                if goes_left(start, stop, third):
                    left = number
                else:
                    right = number
        after[right] = left + 1
        before[left] = right + 1
    numbers = [number for pair in zip(after, before) for number in pair]
    return [len(numbers)] + numbers


def expected_ways(m, row):
    """Of each end the points to its other end: neighbours by their distance, whichever way the doors lead."""
    numbers = expected_lines(m, row)[1:]
    neighbours = [[number - 1 for number in numbers[k:k + 2] if number > 0] for k in range(0, len(numbers), 2)]
    ways = {}
    for start, near in enumerate(neighbours):
        if len(near) == 1:
            distance = {start: 0}
            waiting = [start]
            for point in waiting:
                for reached in neighbours[point]:
                    if reached not in distance:
                        distance[reached] = distance[point] + 1
                        waiting.append(reached)
            ways[start] = sorted(distance, key=distance.get)
    return ways


def expected_first(m, row):
    """By the doors of the outer sides: a 0 nearer to (m, 0) than a 1 lets in."""
    colour = dict(zip(places(m), row))
    ways = expected_ways(m, row)
    for side in range(m):
        if (colour[(side + 1, m - side - 1)], colour[(side, m - side)]) == (0, 1):
            reached = ways[m * m + side][-1]
            if reached < m * m:
                return [reached]
    return [-33]


def fair_calls():
    """Sizes and fair rows of many kinds, the corners that the document names among them."""
    calls = [(m, row) for m in (1, 2, 3) for row in all_rows(m)]
    for m in range(3, 10):
        # The order of the wishes is the order in which the colours are taken where they are allowed.
        calls += [(m, row_with(m, {}, wished)) for wished in itertools.permutations(range(3))]
        # All inner places of one colour, whatever stands round them.
        for colour in range(3):
            calls += [(m, inner_row(m, colour, wished)) for wished in itertools.permutations(range(3))]
        # As many doors as the outer sides can have, the one at each corner among them.
        calls.append((m, side_row(m, [1] + [i % 2 for i in range(m - 1)] + [0])))
        calls.append((m, side_row(m, [1] + [1 - i % 2 for i in range(m - 1)] + [0])))
        calls += [(m, row) for row in mixed_rows(m, 20)]
    # A round: a 0 with 1 all round it, and a 1 with 0 all round it.
    calls += [(m, row_with(m, {(1, 2): 0}, (1, 2, 0))) for m in range(4, 10)]
    calls += [(m, row_with(m, {(2, 1): 1}, (0, 2, 1))) for m in range(4, 10)]
    calls += [(m, comb_row(m)) for m in range(1, 10)]
    return calls


def refused_calls():
    """Sizes that aren't 1 to 9 with all sorts of rows, and sizes with rows that aren't fair colours."""
    rows = [[], [0], [1], [2], [LARGEST], [0] * 200, [2] * 200, [LARGEST] * 200]
    rows += [row_with(m, {}) for m in (1, 2, 3, 9, 10, 11)]
    rows += [[3] + row_with(m, {})[1:] for m in (1, 9, 10)]
    rows += [row_with(10, {})[:-1], row_with(10, {}) + [1]]
    calls = [(m, row) for m in (0, 10, 11, 4294967294, LARGEST) for row in rows]
    for m in range(1, 10):
        for row in (row_with(m, {}, (0, 1, 2)), row_with(m, {}, (2, 1, 0))):
            for number, place in enumerate(places(m)):
                for colour in (0, 1, 2, 3, 4, 255, LARGEST):
                    if colour not in allowed(m, place):
                        calls.append((m, row[:number] + [colour] + row[number + 1:]))
            calls += [(m, row[:-1]), (m, row[1:]), (m, row + [0]), (m, row + [1]), (m, row + [LARGEST]), (m, [])]
            calls += [(m, (row * 200)[:200]), (m, row + [0] * (200 - len(row))), (m, [LARGEST] * 200)]
            calls += [(other, row) for other in range(1, 10) if other != m]
    return calls


def refused_calls_with_points():
    """The same with points that would be there and points that wouldn't; m * m + m is how many a size has."""
    calls = []
    for m, row in refused_calls():
        points = [0, 1, LARGEST]
        if m < 10:
            points += [m * m, m * m + m - 1, m * m + m]
        calls += [(m, k, row) for k in points]
    return calls
