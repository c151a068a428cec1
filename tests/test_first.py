import unittest

from tests.triangles import (
    LARGEST, NoChanges, all_rows, comb_row, expected_first, fair_calls, inner_row, refused_calls, row_with, side_row,
)
from threecolours.rooms import first, first_room, found, lines, other


def sides_that_begin(m, row):
    """The outer sides, by their points' numbers, after which there is something and before which there is nothing."""
    numbers = lines(m, row)[1:]
    return [point for point in range(m * m, m * m + m) if numbers[2 * point] > 0 and numbers[2 * point + 1] == 0]


class FirstRoom(unittest.TestCase):
    def test_size_1(self):
        self.assertEqual(first(1, [2, 0, 1]), [0])

    def test_all_of_size_2(self):
        by_hand = [
            ([2, 0, 0, 1, 0, 1], [0]),
            ([2, 0, 0, 1, 1, 1], [0]),
            ([2, 0, 0, 2, 0, 1], [3]),
            ([2, 0, 0, 2, 1, 1], [1]),
            ([2, 2, 0, 1, 0, 1], [1]),
            ([2, 2, 0, 1, 1, 1], [2]),
            ([2, 2, 0, 2, 0, 1], [3]),
            ([2, 2, 0, 2, 1, 1], [2]),
        ]
        self.assertEqual([row for row, expected in by_hand], list(all_rows(2)))
        for row, expected in by_hand:
            self.assertEqual(first(2, row), expected, row)

    def test_all_inner_places_of_one_colour(self):
        # They meet at the corner whose colour stands nowhere else.
        for m in (3, 4, 9):
            self.assertEqual(first(m, inner_row(m, 0, (0, 1, 2))), [0], m)
            self.assertEqual(first(m, inner_row(m, 1, (1, 2, 0))), [2 * m - 2], m)
            self.assertEqual(first(m, inner_row(m, 2, (2, 0, 1))), [m * m - 1], m)

    def test_door_at_a_corner(self):
        self.assertEqual(first(3, side_row(3, [1, 0, 0, 0])), [8])
        self.assertEqual(first(3, side_row(3, [1, 1, 1, 0])), [4])

    def test_three_rooms_with_both_ways_among_them(self):
        # Side 0 leads to room 8 and side 2 to room 4; from room 7, the other way round, a line leads out.
        self.assertEqual(first(3, [2, 2, 2, 0, 2, 2, 1, 2, 0, 1]), [8])

    def test_line_from_room_to_room(self):
        # Rooms 5, 1, 3 and 6 are joined to one another; only room 4 is reached from outside.
        self.assertEqual(first(3, [2, 2, 2, 0, 1, 0, 1, 2, 1, 1]), [4])

    def test_outer_sides_with_many_doors(self):
        self.assertEqual(first(9, side_row(9, [1, 0] * 5)), [80])
        self.assertEqual(first(9, side_row(9, [1, 1, 0, 1, 0, 1, 0, 1, 0, 0])), [79])

    def test_round(self):
        self.assertEqual(first(4, [2, 2, 2, 2, 0, 1, 1, 1, 1, 1, 0, 1, 1, 1, 1]), [6])

    def test_long_line_of_size_9(self):
        self.assertEqual(first(9, comb_row(9)), [0])

    def test_as_the_doors_lie(self):
        for m, row in fair_calls():
            self.assertEqual(first(m, row), expected_first(m, row), (m, row))


class SidesThatArePassedOver(unittest.TestCase):
    def test_line_from_side_to_side(self):
        # In by side 0, round the 0 at (1, 2) and out by side 1; then in by side 2 to room 4.
        row = [2, 2, 2, 0, 2, 1, 1, 1, 0, 1]
        self.assertEqual(sides_that_begin(3, row), [9, 11])
        self.assertEqual(other(3, 9, row), [10, 4])
        self.assertEqual(first(3, row), [4])

    def test_two_lines_from_side_to_side(self):
        # The 0s at (1, 4) and (3, 2) stand alone among the 1s, so sides 0 and 2 lead out again.
        row = row_with(5, {(1, 4): 0, (3, 2): 0}, (1, 2, 0))
        self.assertEqual(sides_that_begin(5, row), [25, 27, 29])
        self.assertEqual(other(5, 25, row), [26, 4])
        self.assertEqual(other(5, 27, row), [28, 4])
        self.assertEqual(first(5, row), [8])

    def test_later_line_from_side_to_side_changes_nothing(self):
        row = row_with(3, {(1, 1): 0, (2, 0): 0, (1, 2): 0, (2, 1): 1, (0, 2): 2})
        self.assertEqual(sides_that_begin(3, row), [9, 11])
        self.assertEqual(other(3, 11, row), [10, 4])
        self.assertEqual(first(3, row), [8])

    def test_first_of_the_sides_whose_other_end_is_a_room(self):
        passed_over = 0
        for m, row in fair_calls():
            ends = [other(m, side, row)[0] for side in sides_that_begin(m, row)]
            reached = [end for end in ends if end < m * m]
            self.assertEqual(first(m, row), reached[:1], (m, row))
            if ends[0] >= m * m:
                passed_over += 1
        self.assertGreater(passed_over, 10)


class WhatHolds(unittest.TestCase):
    def test_all_three_meet_there(self):
        for m, row in fair_calls():
            answer = first(m, row)
            self.assertEqual(len(answer), 1, (m, row))
            self.assertIn(answer[0], found(m, row)[1::2], (m, row))


class NoRoom(unittest.TestCase):
    # Fair colours always lead to a room, so this is told of rows of lines.
    def test_no_line_at_all(self):
        self.assertEqual(first_room(1, [0, 0, 0, 0]), -33)

    def test_line_from_side_to_side_alone(self):
        # 4, 3, 5, and 5, 3, 4: in by one outer side and out by the other.
        self.assertEqual(first_room(2, [0, 0, 0, 0, 0, 0, 6, 5, 4, 0, 0, 4]), -33)
        self.assertEqual(first_room(2, [0, 0, 0, 0, 0, 0, 5, 6, 0, 4, 4, 0]), -33)

    def test_line_that_stops_at_a_side(self):
        # From room 0 to the outer side, where no line begins.
        self.assertEqual(first_room(1, [2, 0, 0, 1]), -33)

    def test_line_to_a_room(self):
        self.assertEqual(first_room(1, [0, 2, 1, 0]), 0)


class Refusals(unittest.TestCase):
    def test_refused(self):
        for m, row in refused_calls():
            self.assertEqual(first(m, row), [-22], (m, row))

    def test_size_and_row_by_hand(self):
        for m in (0, 10, LARGEST):
            for row in ([], [2, 0, 1], [2, 0, 3], row_with(10, {}), [LARGEST] * 200):
                self.assertEqual(first(m, row), [-22], (m, row))
        for row in ([], [2, 0], [2, 0, 1, 1], [0, 0, 1], [2, 1, 1], [2, 0, 2], [2, 0, 3], [2, LARGEST, 1], [2] * 200):
            self.assertEqual(first(1, row), [-22], row)


class FormOfTheAnswer(unittest.TestCase):
    def calls(self):
        return [(1, [2, 0, 1]), (3, [2, 2, 2, 0, 2, 2, 1, 2, 0, 1]), (9, side_row(9, [1, 0] * 5)),
                (1, [0, 0, 0]), (9, []), (0, [2, 0, 1]), (10, []), (LARGEST, [LARGEST])]

    def test_kinds(self):
        for m, row in self.calls():
            answer = first(m, row)
            self.assertIs(type(answer), list)
            self.assertEqual([type(number) for number in answer], [int])

    def test_what_is_handed_in_stays(self):
        for m, row in self.calls():
            handed = NoChanges(row)
            first(m, handed)
            self.assertEqual(handed, row)

    def test_nothing_is_kept(self):
        for m, row in self.calls():
            before = first(m, row)
            expected = list(before)
            before.append(7)
            before[0] = 7
            first(2, [2, 0, 0, 2, 0, 1])
            self.assertEqual(first(m, row), expected)


if __name__ == "__main__":
    unittest.main()
