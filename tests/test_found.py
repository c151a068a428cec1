import unittest

from tests.triangles import (
    LARGEST, NoChanges, all_rows, expected_found, fair_calls, is_inner, places, refused_calls, row_with, side_row,
)
from threecolours.rooms import found


class RoomsInWhichAllMeet(unittest.TestCase):
    def test_size_1(self):
        self.assertEqual(found(1, [2, 0, 1]), [1, 0, 1])

    def test_all_of_size_2(self):
        by_hand = [
            ([2, 0, 0, 1, 0, 1], [1, 0, 1]),
            ([2, 0, 0, 1, 1, 1], [1, 0, 1]),
            ([2, 0, 0, 2, 0, 1], [1, 3, 1]),
            ([2, 0, 0, 2, 1, 1], [1, 1, 1]),
            ([2, 2, 0, 1, 0, 1], [1, 1, 1]),
            ([2, 2, 0, 1, 1, 1], [1, 2, 1]),
            ([2, 2, 0, 2, 0, 1], [1, 3, 1]),
            ([2, 2, 0, 2, 1, 1], [1, 2, 1]),
        ]
        self.assertEqual([row for row, expected in by_hand], list(all_rows(2)))
        for row, expected in by_hand:
            self.assertEqual(found(2, row), expected, row)

    def test_inner_place_of_each_colour(self):
        self.assertEqual(found(3, [2, 2, 2, 0, 2, 0, 1, 2, 1, 1]), [3, 3, 2, 4, 1, 6, 1])
        self.assertEqual(found(3, [2, 2, 2, 0, 2, 1, 1, 2, 1, 1]), [1, 4, 1])
        self.assertEqual(found(3, [2, 2, 2, 0, 2, 2, 1, 2, 1, 1]), [1, 4, 1])

    def test_all_inner_places_of_one_colour(self):
        # They meet at the corner whose colour stands nowhere else.
        for m in (4, 9):
            for colour, wished, room in ((0, (0, 1, 2), 0), (1, (1, 2, 0), 2 * m - 2), (2, (2, 0, 1), m * m - 1)):
                inner = {place: colour for place in places(m) if is_inner(m, place)}
                answer = found(m, row_with(m, inner, wished))
                self.assertEqual(answer, [1, room, 1], (m, colour))

    def test_door_at_a_corner(self):
        self.assertEqual(found(3, side_row(3, [1, 0, 0, 0])), [1, 8, 1])
        self.assertEqual(found(3, side_row(3, [1, 1, 1, 0])), [1, 4, 1])

    def test_three_rooms_with_both_ways_among_them(self):
        self.assertEqual(found(3, [2, 2, 2, 0, 2, 2, 1, 2, 0, 1]), [3, 4, 1, 7, 2, 8, 1])

    def test_line_from_room_to_room(self):
        self.assertEqual(found(3, [2, 2, 2, 0, 1, 0, 1, 2, 1, 1]), [5, 1, 1, 3, 2, 4, 1, 5, 2, 6, 1])

    def test_outer_sides_with_many_doors(self):
        self.assertEqual(found(9, side_row(9, [1, 0] * 5)), [
            9, 16, 1, 31, 2, 44, 1, 55, 2, 64, 1, 71, 2, 76, 1, 79, 2, 80, 1,
        ])

    def test_round(self):
        self.assertEqual(found(4, [2, 2, 2, 2, 0, 1, 1, 1, 1, 1, 0, 1, 1, 1, 1]), [1, 6, 1])

    def test_as_the_corners_lie(self):
        for m, row in fair_calls():
            self.assertEqual(found(m, row), expected_found(m, row), (m, row))

    def test_one_more_on_the_left_and_rising_numbers(self):
        for m, row in fair_calls():
            answer = found(m, row)
            numbers, turns = answer[1::2], answer[2::2]
            self.assertEqual(len(answer), 1 + 2 * answer[0], (m, row))
            self.assertGreaterEqual(answer[0], 1, (m, row))
            self.assertEqual(numbers, sorted(set(numbers)), (m, row))
            self.assertTrue(0 <= numbers[0] and numbers[-1] < m * m, (m, row))
            self.assertEqual(turns.count(1), turns.count(2) + 1, (m, row))
            self.assertEqual(turns.count(1) + turns.count(2), len(turns), (m, row))


class Refusals(unittest.TestCase):
    def test_refused(self):
        for m, row in refused_calls():
            self.assertEqual(found(m, row), [-22], (m, row))

    def test_size_and_row_by_hand(self):
        for m in (0, 10, LARGEST):
            for row in ([], [2, 0, 1], [2, 0, 3], [LARGEST] * 200):
                self.assertEqual(found(m, row), [-22], (m, row))
        for row in ([], [2, 0], [2, 0, 1, 1], [0, 0, 1], [2, 1, 1], [2, 0, 2], [2, 0, 3], [2, LARGEST, 1]):
            self.assertEqual(found(1, row), [-22], row)


class FormOfTheAnswer(unittest.TestCase):
    def calls(self):
        return [(1, [2, 0, 1]), (3, [2, 2, 2, 0, 2, 2, 1, 2, 0, 1]), (9, side_row(9, [1, 0] * 5)),
                (1, [0, 0, 0]), (9, []), (0, [2, 0, 1]), (10, []), (LARGEST, [LARGEST])]

    def test_kinds(self):
        for m, row in self.calls():
            answer = found(m, row)
            self.assertIs(type(answer), list)
            self.assertEqual({type(number) for number in answer}, {int})

    def test_what_is_handed_in_stays(self):
        for m, row in self.calls():
            handed = NoChanges(row)
            found(m, handed)
            self.assertEqual(handed, row)

    def test_nothing_is_kept(self):
        for m, row in self.calls():
            before = found(m, row)
            expected = list(before)
            before.append(7)
            before[0] = 7
            found(2, [2, 0, 0, 1, 0, 1])
            self.assertEqual(found(m, row), expected)


if __name__ == "__main__":
    unittest.main()
