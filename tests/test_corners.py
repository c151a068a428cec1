import unittest

from tests.triangles import LARGEST, goes_left, numbered_rooms
from threecolours.rooms import corners, rooms


def triples(answer):
    return [tuple(answer[k:k + 3]) for k in range(1, len(answer), 3)]


def told_corners(m, i, j, up):
    """As the document tells them, each with what's left of m."""
    if up:
        listed = [(i, j), (i + 1, j), (i, j + 1)]
    else:
        listed = [(i + 1, j + 1), (i, j + 1), (i + 1, j)]
    return [(first, second, m - first - second) for first, second in listed]


class CornersOfARoom(unittest.TestCase):
    def test_size_1_in_full(self):
        self.assertEqual(corners(1, 0), [9, 0, 0, 1, 1, 0, 0, 0, 1, 0])
        self.assertEqual(corners(1, 1), [-2])

    def test_size_2_in_full(self):
        self.assertEqual(corners(2, 0), [9, 0, 0, 2, 1, 0, 1, 0, 1, 1])
        self.assertEqual(corners(2, 1), [9, 1, 1, 0, 0, 1, 1, 1, 0, 1])
        self.assertEqual(corners(2, 2), [9, 1, 0, 1, 2, 0, 0, 1, 1, 0])
        self.assertEqual(corners(2, 3), [9, 0, 1, 1, 1, 1, 0, 0, 2, 0])
        self.assertEqual(corners(2, 4), [-2])

    def test_up_and_down_in_a_large_triangle(self):
        # Row j = 3 begins with room 45; 49 and 50 are its third two, both at (2, 3).
        self.assertEqual(corners(9, 49), [9, 2, 3, 4, 3, 3, 3, 2, 4, 3])
        self.assertEqual(corners(9, 50), [9, 3, 4, 2, 2, 4, 3, 3, 3, 3])

    def test_last_room(self):
        self.assertEqual(corners(9, 80), [9, 0, 8, 1, 1, 8, 0, 0, 9, 0])
        for m in range(1, 10):
            self.assertEqual(corners(m, m * m - 1), [9, 0, m - 1, 1, 1, m - 1, 0, 0, m, 0], m)

    def test_each_room_of_each_size_as_rooms_tells(self):
        for m in range(1, 10):
            answer = rooms(m)
            self.assertEqual(answer[0], m * m)
            for k, (i, j, up) in enumerate(triples(answer)):
                told = corners(m, k)
                self.assertEqual(told[0], 9, (m, k))
                self.assertEqual(len(told), 10, (m, k))
                self.assertEqual(triples(told), told_corners(m, i, j, up), (m, k))
                self.assertEqual([sum(numbers) for numbers in triples(told)], [m, m, m], (m, k))
                self.assertGreaterEqual(min(told), 0, (m, k))

    def test_round_each_room_on_the_left(self):
        for m in range(1, 10):
            for k, room in enumerate(numbered_rooms(m)):
                listed = [numbers[:2] for numbers in triples(corners(m, k))]
                self.assertEqual(frozenset(listed), room, (m, k))
                self.assertTrue(goes_left(*listed), (m, k))


class Refusals(unittest.TestCase):
    def test_no_room(self):
        for m in range(1, 10):
            # From m * m on the points are outer sides, and behind m * m + m there are none.
            for k in list(range(m * m, m * m + m + 2)) + [4294967294, LARGEST]:
                self.assertEqual(corners(m, k), [-2], (m, k))

    def test_size_ahead_of_the_room(self):
        for m in (0, 10, 11, 4294967294, LARGEST):
            for k in (0, 1, 80, 81, 99, 100, 4294967294, LARGEST):
                self.assertEqual(corners(m, k), [-22], (m, k))


class FormOfTheAnswer(unittest.TestCase):
    def calls(self):
        return [(1, 0), (1, 1), (2, 1), (9, 80), (9, 81), (0, 0), (10, 0), (LARGEST, LARGEST)]

    def test_kinds(self):
        for m, k in self.calls():
            answer = corners(m, k)
            self.assertIs(type(answer), list)
            self.assertEqual({type(number) for number in answer}, {int})

    def test_nothing_is_kept(self):
        for m, k in self.calls():
            before = corners(m, k)
            expected = list(before)
            before.append(7)
            before[0] = 7
            corners(3, 3)
            self.assertEqual(corners(m, k), expected)


if __name__ == "__main__":
    unittest.main()
