"""Fair colours of a triangle's places, and the rooms between the places."""

LARGEST_SIZE = 9
LAST_COLOUR = 2

REFUSED_INPUT = -22

UP = 1
DOWN = 0


def is_size(m):
    return m >= 1 and m <= LARGEST_SIZE


def places(m):
    """The three numbers of each place, by j, then by i."""
    listed = []
    for j in range(m + 1):
        for i in range(m + 1 - j):
            listed.append((i, j, m - i - j))
    return listed


def are_fair(m, c):
    """Whether c has one colour for each place, and each is allowed there; m must be a size."""
    listed = places(m)
    if len(c) != len(listed):
        return False
    for numbers, colour in zip(listed, c):
        # A colour is the index of the number that must not be 0, so it has to be a colour before it is looked up.
        if colour > LAST_COLOUR or numbers[colour] == 0:
            return False
    return True


def small_triangles(m):
    """Each room as i, j and where it points, by j, then by i; m must be a size."""
    listed = []
    for j in range(m):
        for i in range(m - j):
            listed.append((i, j, UP))
            # Along the slanted side one that points down would lie outside the triangle.
            if i + j < m - 1:
                listed.append((i, j, DOWN))
    return listed


def fair(m, c):
    """1 if c are fair colours, else 0; -22 if m isn't 1 to 9."""
    if not is_size(m):
        return [REFUSED_INPUT]
    return [1 if are_fair(m, c) else 0]


def rooms(m):
    """How many rooms, then of each i, j, and 1 if it points up, 0 if down; -22 if m isn't 1 to 9."""
    if not is_size(m):
        return [REFUSED_INPUT]
    listed = small_triangles(m)
    answer = [len(listed)]
    for room in listed:
        answer.extend(room)
    return answer
