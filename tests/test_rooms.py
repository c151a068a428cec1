import unittest

from tests.triangles import LARGEST
from threecolours.rooms import rooms


def rows_of_rooms(m):
    """Row by row: up and down take turns, and each row begins and stops with one that points up."""
    listed = []
    for j in range(m):
        for turn in range(2 * (m - j) - 1):
            listed += [turn // 2, j, 1 - turn % 2]
    return listed


class RoomsOfATriangle(unittest.TestCase):
    def test_size_1(self):
        self.assertEqual(rooms(1), [1, 0, 0, 1])

    def test_size_2(self):
        self.assertEqual(rooms(2), [4, 0, 0, 1, 0, 0, 0, 1, 0, 1, 0, 1, 1])

    def test_size_3(self):
        self.assertEqual(rooms(3), [
            9,
            0, 0, 1, 0, 0, 0, 1, 0, 1, 1, 0, 0, 2, 0, 1,
            0, 1, 1, 0, 1, 0, 1, 1, 1,
            0, 2, 1,
        ])

    def test_size_9(self):
        self.assertEqual(rooms(9), [
            81,
            0, 0, 1, 0, 0, 0, 1, 0, 1, 1, 0, 0, 2, 0, 1, 2, 0, 0, 3, 0, 1, 3, 0, 0, 4, 0, 1, 4, 0, 0,
            5, 0, 1, 5, 0, 0, 6, 0, 1, 6, 0, 0, 7, 0, 1, 7, 0, 0, 8, 0, 1,
            0, 1, 1, 0, 1, 0, 1, 1, 1, 1, 1, 0, 2, 1, 1, 2, 1, 0, 3, 1, 1, 3, 1, 0, 4, 1, 1, 4, 1, 0,
            5, 1, 1, 5, 1, 0, 6, 1, 1, 6, 1, 0, 7, 1, 1,
            0, 2, 1, 0, 2, 0, 1, 2, 1, 1, 2, 0, 2, 2, 1, 2, 2, 0, 3, 2, 1, 3, 2, 0, 4, 2, 1, 4, 2, 0,
            5, 2, 1, 5, 2, 0, 6, 2, 1,
            0, 3, 1, 0, 3, 0, 1, 3, 1, 1, 3, 0, 2, 3, 1, 2, 3, 0, 3, 3, 1, 3, 3, 0, 4, 3, 1, 4, 3, 0,
            5, 3, 1,
            0, 4, 1, 0, 4, 0, 1, 4, 1, 1, 4, 0, 2, 4, 1, 2, 4, 0, 3, 4, 1, 3, 4, 0, 4, 4, 1,
            0, 5, 1, 0, 5, 0, 1, 5, 1, 1, 5, 0, 2, 5, 1, 2, 5, 0, 3, 5, 1,
            0, 6, 1, 0, 6, 0, 1, 6, 1, 1, 6, 0, 2, 6, 1,
            0, 7, 1, 0, 7, 0, 1, 7, 1,
            0, 8, 1,
        ])

    def test_all_sizes(self):
        for m in range(1, 10):
            self.assertEqual(rooms(m), [m * m] + rows_of_rooms(m), m)


class SizesThatAreRefused(unittest.TestCase):
    def test_size(self):
        for m in (0, 10, 11, 4294967294, LARGEST):
            self.assertEqual(rooms(m), [-22], m)


class FormOfTheAnswer(unittest.TestCase):
    def test_kinds(self):
        for m in (0, 1, 2, 3, 9, 10, LARGEST):
            answer = rooms(m)
            self.assertIs(type(answer), list)
            for number in answer:
                self.assertIs(type(number), int)

    def test_nothing_is_kept(self):
        for m in (0, 1, 2, 3, 9, 10, LARGEST):
            before = rooms(m)
            expected = list(before)
            before.append(7)
            before[0] = 7
            rooms(4)
            self.assertEqual(rooms(m), expected)


if __name__ == "__main__":
    unittest.main()
