import unittest

from tests.triangles import (
    LARGEST, NoChanges, all_rows, comb_row, expected_ways, fair_calls, inner_row, refused_calls_with_points, row_with,
    side_row,
)
from threecolours.rooms import lines, other, way


def told_ways(m, row):
    """What is told of each point, but for those that are refused as no ends."""
    told = {}
    for k in range(m * m + m):
        answer = way(m, k, row)
        if answer != [-33]:
            told[k] = answer
    return told


def both_ways(*listed):
    """Of each line, told as its points, what is answered of both its ends."""
    ends = {}
    for line in listed:
        ends[line[0]] = [len(line)] + line
        ends[line[-1]] = [len(line)] + line[::-1]
    return ends


class LinesFromEndToEnd(unittest.TestCase):
    def test_size_1_in_full(self):
        self.assertEqual(way(1, 0, [2, 0, 1]), [2, 0, 1])
        self.assertEqual(way(1, 1, [2, 0, 1]), [2, 1, 0])
        self.assertEqual(way(1, 2, [2, 0, 1]), [-2])

    def test_all_of_size_2(self):
        by_hand = [
            ([2, 0, 0, 1, 0, 1], [4, 3, 1, 0]),
            ([2, 0, 0, 1, 1, 1], [5, 2, 1, 0]),
            ([2, 0, 0, 2, 0, 1], [4, 3]),
            ([2, 0, 0, 2, 1, 1], [5, 2, 1]),
            ([2, 2, 0, 1, 0, 1], [4, 3, 1]),
            ([2, 2, 0, 1, 1, 1], [5, 2]),
            ([2, 2, 0, 2, 0, 1], [4, 3]),
            ([2, 2, 0, 2, 1, 1], [5, 2]),
        ]
        self.assertEqual([row for row, line in by_hand], list(all_rows(2)))
        for row, line in by_hand:
            self.assertEqual(told_ways(2, row), both_ways(line), row)
            self.assertEqual(way(2, 6, row), [-2], row)

    def test_all_inner_places_of_one_colour(self):
        # In at the corner of the 1, then down along the 1s of the side to the corner of the 2.
        self.assertEqual(told_ways(4, inner_row(4, 0, (0, 1, 2))), both_ways([16, 15, 13, 12, 8, 7, 1, 0]))
        self.assertEqual(told_ways(9, inner_row(9, 0, (0, 1, 2))), both_ways(
            [81, 80, 78, 77, 73, 72, 66, 65, 57, 56, 46, 45, 33, 32, 18, 17, 1, 0],
        ))
        for m in (3, 4, 9):
            self.assertEqual(told_ways(m, inner_row(m, 1, (1, 2, 0))), both_ways([m * m + m - 1, 2 * m - 2]), m)
            self.assertEqual(told_ways(m, inner_row(m, 2, (2, 0, 1))), both_ways([m * m, m * m - 1]), m)

    def test_door_at_a_corner(self):
        self.assertEqual(told_ways(3, side_row(3, [1, 0, 0, 0])), both_ways([9, 8]))
        self.assertEqual(told_ways(3, side_row(3, [1, 1, 1, 0])), both_ways([11, 4]))

    def test_three_rooms_with_both_ways_among_them(self):
        row = [2, 2, 2, 0, 2, 2, 1, 2, 0, 1]
        self.assertEqual(told_ways(3, row), both_ways([9, 8], [7, 10], [11, 4]))

    def test_line_from_room_to_room(self):
        row = [2, 2, 2, 0, 1, 0, 1, 2, 1, 1]
        self.assertEqual(told_ways(3, row), both_ways([5, 1], [3, 7, 6], [11, 4]))

    def test_line_from_side_to_side(self):
        # Round the 0 at (1, 2), with the 0 on the left.
        row = [2, 2, 2, 0, 2, 1, 1, 1, 0, 1]
        self.assertEqual(told_ways(3, row), both_ways([9, 8, 6, 7, 10], [11, 4]))

    def test_outer_sides_with_many_doors(self):
        self.assertEqual(told_ways(9, side_row(9, [1, 0] * 5)), both_ways(
            [81, 80], [79, 82], [83, 76], [71, 84], [85, 64], [55, 86], [87, 44], [31, 88], [89, 16],
        ))

    def test_round(self):
        row = [2, 2, 2, 2, 0, 1, 1, 1, 1, 1, 0, 1, 1, 1, 1]
        self.assertEqual(told_ways(4, row), both_ways([19, 6]))
        for k in (8, 9, 10, 14, 13, 12):
            self.assertEqual(way(4, k, row), [-33], k)

    def test_long_line_of_size_9(self):
        # Row of rooms by row of rooms, there and back; each row but the first has one room of one colour, passed by.
        line = [81, 80, 78, 79, 75, 74, 73, 72]
        line += list(range(66, 72)) + list(range(63, 55, -1))
        line += list(range(46, 56)) + list(range(43, 31, -1))
        line += list(range(18, 32)) + list(range(15, -1, -1))
        self.assertEqual(told_ways(9, comb_row(9)), both_ways(line))
        self.assertEqual(way(9, 81, comb_row(9))[0], 74)

    def test_as_the_doors_lie(self):
        for m, row in fair_calls():
            expected = {end: [len(line)] + line for end, line in expected_ways(m, row).items()}
            self.assertEqual(told_ways(m, row), expected, (m, row))


class WhatHolds(unittest.TestCase):
    def test_as_other_tells(self):
        for m, row in fair_calls():
            for k in range(m * m + m):
                answer = way(m, k, row)
                told = other(m, k, row)
                if told == [-33]:
                    self.assertEqual(answer, [-33], (m, row, k))
                else:
                    self.assertEqual(answer[0], len(answer) - 1, (m, row, k))
                    self.assertEqual(answer[1], k, (m, row, k))
                    self.assertEqual(told, [answer[-1], answer[0] - 1], (m, row, k))

    def test_each_two_are_a_step_as_lines_tells(self):
        for m, row in fair_calls():
            numbers = lines(m, row)[1:]
            for end, answer in told_ways(m, row).items():
                line = answer[1:]
                if numbers[2 * end] == 0:
                    line.reverse()
                for here, there in zip(line, line[1:]):
                    self.assertEqual(numbers[2 * here], there + 1, (m, row, end))
                    self.assertEqual(numbers[2 * there + 1], here + 1, (m, row, end))
                self.assertEqual(numbers[2 * line[0] + 1], 0, (m, row, end))
                self.assertEqual(numbers[2 * line[-1]], 0, (m, row, end))

    def test_the_other_end_has_the_same_points_from_behind(self):
        for m, row in fair_calls():
            told = told_ways(m, row)
            for end, answer in told.items():
                self.assertEqual(told[answer[-1]], [answer[0]] + answer[:0:-1], (m, row, end))


class Refusals(unittest.TestCase):
    def test_points_that_are_there_and_that_are_not(self):
        for m in range(1, 10):
            points = m * m + m
            row = side_row(m, [1] * m + [0])
            self.assertEqual(way(m, points - 1, row), [2, points - 1, 2 * m - 2], m)
            for k in (points, points + 1, 2 * points, 4294967294, LARGEST):
                self.assertEqual(way(m, k, row), [-2], (m, k))

    def test_points_that_are_no_ends(self):
        # By side 0 through rooms 3 and 1 to room 0; room 2 has no door, and side 1 is none.
        row = [2, 0, 0, 1, 0, 1]
        for k in (3, 1, 2, 5):
            self.assertEqual(way(2, k, row), [-33], k)

    def test_last_point_that_is_no_end(self):
        row = side_row(9, [1] + [0] * 9)
        self.assertEqual(way(9, 89, row), [-33])
        self.assertEqual(way(9, 90, row), [-2])

    def test_refused_ahead_of_the_point(self):
        for m, k, row in refused_calls_with_points():
            self.assertEqual(way(m, k, row), [-22], (m, k, row))

    def test_size_and_row_by_hand(self):
        for k in (0, 1, 2, 110, LARGEST):
            for m in (0, 10, LARGEST):
                for row in ([], [2, 0, 1], [2, 0, 3], row_with(10, {}), [LARGEST] * 200):
                    self.assertEqual(way(m, k, row), [-22], (m, k, row))
            for row in ([], [2, 0], [2, 0, 1, 1], [0, 0, 1], [2, 1, 1], [2, 0, 2], [2, 0, 3], [2, LARGEST, 1],
                        [2] * 200):
                self.assertEqual(way(1, k, row), [-22], (k, row))


class FormOfTheAnswer(unittest.TestCase):
    def calls(self):
        return [(1, 0, [2, 0, 1]), (1, 1, [2, 0, 1]), (3, 7, [2, 2, 2, 0, 2, 2, 1, 2, 0, 1]), (9, 81, comb_row(9)),
                (9, 0, comb_row(9)), (9, 1, comb_row(9)), (9, 90, comb_row(9)), (1, 0, [0, 0, 0]), (9, 0, []),
                (0, 0, [2, 0, 1]), (10, 0, []), (LARGEST, LARGEST, [LARGEST])]

    def test_kinds(self):
        for m, k, row in self.calls():
            answer = way(m, k, row)
            self.assertIs(type(answer), list)
            self.assertEqual({type(number) for number in answer}, {int})

    def test_what_is_handed_in_stays(self):
        for m, k, row in self.calls():
            handed = NoChanges(row)
            way(m, k, handed)
            self.assertEqual(handed, row)

    def test_nothing_is_kept(self):
        for m, k, row in self.calls():
            before = way(m, k, row)
            expected = list(before)
            before.append(7)
            before[0] = 7
            way(2, 4, [2, 0, 0, 1, 0, 1])
            self.assertEqual(way(m, k, row), expected)


if __name__ == "__main__":
    unittest.main()
