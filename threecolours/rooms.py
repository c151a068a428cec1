"""Fair colours of a triangle's places, the rooms between the places, and the lines through the rooms."""

LARGEST_SIZE = 9
COLOURS = 3

REFUSED_INPUT = -22
REFUSED_POINT = -2
REFUSED_END = -33

UP = 1
DOWN = 0

NOTHING = 0

# Where, of a point's two numbers in the row of the lines, the one stands that is followed.
ON = 0
BACK = 1

# The colours from and to which a side leads, for one who goes round a room on the left.
DOOR_OUT = (1, 0)
DOOR_IN = (0, 1)


def is_size(m):
    return m >= 1 and m <= LARGEST_SIZE


def places(m):
    """The three numbers of each place, by j, then by i."""
    listed = []
    for j in range(m + 1):
        for i in range(m + 1 - j):
            listed.append((i, j, m - i - j))
    return listed


def are_fair(m, c):
    """Whether c has one colour for each place, and each is allowed there; m must be a size."""
    listed = places(m)
    if len(c) != len(listed):
        return False
    for numbers, colour in zip(listed, c):
        # A colour is the index of the number that must not be 0, so it has to be a colour before it is looked up.
        if colour >= COLOURS or numbers[colour] == 0:
            return False
    return True


def small_triangles(m):
    """Each room as i, j and where it points, by j, then by i; m must be a size."""
    listed = []
    for j in range(m):
        for i in range(m - j):
            listed.append((i, j, UP))
            # Along the slanted side one that points down would lie outside the triangle.
            if i + j < m - 1:
                listed.append((i, j, DOWN))
    return listed


def corners_of(room):
    """The places (i, j) at a room's corners, in the order that goes round it on the left."""
    i = room[0]
    j = room[1]
    if room[2] == UP:
        return [(i, j), (i + 1, j), (i, j + 1)]
    return [(i + 1, j + 1), (i, j + 1), (i + 1, j)]


def colours_by_place(m, c):
    """The colour of each place (i, j); c must be fair colours."""
    by_place = {}
    for numbers, colour in zip(places(m), c):
        by_place[(numbers[0], numbers[1])] = colour
    return by_place


def turn_of(colours):
    """1 if a room's colours are all three, round on the left, 2 if the other way, 0 if they are not all three."""
    # Round on the left each colour is 1 more than the one before, 2 being followed by 0; the other way it is 2 more.
    # The same step twice thus tells all three apart, but for a step of 0, which is a room of one colour.
    turn = (colours[1] - colours[0]) % COLOURS
    if (colours[2] - colours[1]) % COLOURS == turn:
        return turn
    return 0


def sides_of_points(m):
    """Of each point of the lines its sides, each as the places from and to which it leads."""
    listed = []
    for room in small_triangles(m):
        told = corners_of(room)
        listed.append([(told[0], told[1]), (told[1], told[2]), (told[2], told[0])])
    for i in range(m):
        # Told against its room's way round, so that an outer side meets its room just as two rooms meet each other.
        listed.append([((i, m - i), (i + 1, m - i - 1))])
    return listed


def points_by_side(sides_listed):
    """The number of the point that has a side, as the side leads there."""
    by_side = {}
    for point, sides in enumerate(sides_listed):
        for side in sides:
            by_side[side] = point
    return by_side


def beyond(sides, door, by_place, by_side):
    """One more than the point beyond the one of the sides that is such a door, 0 if none is."""
    for start, stop in sides:
        if (by_place[start], by_place[stop]) == door:
            # Fair colours leave no door on the triangle's other two sides, so behind every door there is a point.
            return by_side[(stop, start)] + 1
    return NOTHING


def row_of_lines(m, c):
    """Of each point one more than what's next and one more than what's before; c must be fair colours."""
    by_place = colours_by_place(m, c)
    sides_listed = sides_of_points(m)
    by_side = points_by_side(sides_listed)
    row = []
    for sides in sides_listed:
        row.append(beyond(sides, DOOR_OUT, by_place, by_side))
        row.append(beyond(sides, DOOR_IN, by_place, by_side))
    return row


def step_from(row, point, direction):
    """One more than the point to which a step leads, on from this one or back from it, 0 if none does."""
    told = row[2 * point + direction]
    # Both have to say so: then no two steps lead to one point, and who sets out from an end can't go round for ever.
    if told != NOTHING and row[2 * (told - 1) + 1 - direction] == point + 1:
        return told
    return NOTHING


def begins(row, point):
    return step_from(row, point, ON) != NOTHING and step_from(row, point, BACK) == NOTHING


def stops(row, point):
    return step_from(row, point, BACK) != NOTHING and step_from(row, point, ON) == NOTHING


def is_end(row, point):
    return begins(row, point) or stops(row, point)


def line_from(row, end):
    """The points from an end to its other end."""
    direction = ON if begins(row, end) else BACK
    points = [end]
    told = step_from(row, end, direction)
    while told != NOTHING:
        points.append(told - 1)
        told = step_from(row, told - 1, direction)
    return points


def first_room(m, row):
    """The room to which a line leads from the first outer side from which one does, -33 if from none."""
    count = len(small_triangles(m))
    for side in range(count, count + m):
        if begins(row, side):
            reached = line_from(row, side)[-1]
            if reached < count:
                return reached
    return REFUSED_END


def line_or_refusal(m, k, c):
    """The points from k to its other end, or the number of the refusal alone."""
    if not is_size(m) or not are_fair(m, c):
        return [REFUSED_INPUT]
    row = row_of_lines(m, c)
    if 2 * k >= len(row):
        return [REFUSED_POINT]
    if not is_end(row, k):
        return [REFUSED_END]
    return line_from(row, k)


def fair(m, c):
    """1 if c are fair colours, else 0; -22 if m isn't 1 to 9."""
    if not is_size(m):
        return [REFUSED_INPUT]
    return [1 if are_fair(m, c) else 0]


def rooms(m):
    """How many rooms, then of each i, j, and 1 if it points up, 0 if down; -22 if m isn't 1 to 9."""
    if not is_size(m):
        return [REFUSED_INPUT]
    listed = small_triangles(m)
    answer = [len(listed)]
    for room in listed:
        answer.extend(room)
    return answer


def found(m, c):
    """In how many rooms all three meet, then of each its number and 1 or 2 for the way round; -22 if refused."""
    if not is_size(m) or not are_fair(m, c):
        return [REFUSED_INPUT]
    by_place = colours_by_place(m, c)
    told = []
    count = 0
    for number, room in enumerate(small_triangles(m)):
        turn = turn_of([by_place[place] for place in corners_of(room)])
        if turn > 0:
            told.extend([number, turn])
            count += 1
    return [count] + told


def lines(m, c):
    """How many numbers the row of the lines has, then these; -22 if refused."""
    if not is_size(m) or not are_fair(m, c):
        return [REFUSED_INPUT]
    row = row_of_lines(m, c)
    return [len(row)] + row


def first(m, c):
    """The room at the other end of the first outer side at which a line to a room begins; -22 or -33 if refused."""
    if not is_size(m) or not are_fair(m, c):
        return [REFUSED_INPUT]
    return [first_room(m, row_of_lines(m, c))]


def other(m, k, c):
    """The other end of point k, then how many steps lead there; -22, -2 or -33 if refused."""
    line = line_or_refusal(m, k, c)
    if line[0] < 0:
        return line
    return [line[-1], len(line) - 1]


def way(m, k, c):
    """How many points, then the line from point k to its other end; -22, -2 or -33 if refused."""
    line = line_or_refusal(m, k, c)
    if line[0] < 0:
        return line
    return [len(line)] + line


def corners(m, k):
    """9, then of each corner of room k, on the left round it, its three numbers; -22 or -2 if refused."""
    if not is_size(m):
        return [REFUSED_INPUT]
    listed = small_triangles(m)
    if k >= len(listed):
        return [REFUSED_POINT]
    numbers = []
    for i, j in corners_of(listed[k]):
        numbers.extend([i, j, m - i - j])
    return [len(numbers)] + numbers
