import unittest

from tests.triangles import (
    LARGEST, NoChanges, all_rows, comb_row, expected_ways, fair_calls, inner_row, places, refused_calls_with_points,
    row_with, side_row,
)
from threecolours.rooms import found, is_end, line_from, lines, other, step_from


def told_ends(m, row):
    """What is told of each point, but for those that are refused as no ends."""
    told = {}
    for k in range(m * m + m):
        answer = other(m, k, row)
        if answer != [-33]:
            told[k] = answer
    return told


def both_ways(*told):
    """Of each line, told as its two ends and its steps, both ends."""
    ends = {}
    for one, another, steps in told:
        ends[one] = [another, steps]
        ends[another] = [one, steps]
    return ends


class OtherEnds(unittest.TestCase):
    def test_size_1_in_full(self):
        self.assertEqual(other(1, 0, [2, 0, 1]), [1, 1])
        self.assertEqual(other(1, 1, [2, 0, 1]), [0, 1])
        self.assertEqual(other(1, 2, [2, 0, 1]), [-2])

    def test_all_of_size_2(self):
        by_hand = [
            ([2, 0, 0, 1, 0, 1], (4, 0, 3)),
            ([2, 0, 0, 1, 1, 1], (5, 0, 3)),
            ([2, 0, 0, 2, 0, 1], (4, 3, 1)),
            ([2, 0, 0, 2, 1, 1], (5, 1, 2)),
            ([2, 2, 0, 1, 0, 1], (4, 1, 2)),
            ([2, 2, 0, 1, 1, 1], (5, 2, 1)),
            ([2, 2, 0, 2, 0, 1], (4, 3, 1)),
            ([2, 2, 0, 2, 1, 1], (5, 2, 1)),
        ]
        self.assertEqual([row for row, line in by_hand], list(all_rows(2)))
        for row, line in by_hand:
            self.assertEqual(told_ends(2, row), both_ways(line), row)
            self.assertEqual(other(2, 6, row), [-2], row)

    def test_all_inner_places_of_one_colour(self):
        for m in (3, 4, 9):
            points = m * m + m
            # Two rooms a row, down along the 1s of the side; at its top one.
            self.assertEqual(told_ends(m, inner_row(m, 0, (0, 1, 2))), both_ways((m * m, 0, 2 * m - 1)), m)
            self.assertEqual(told_ends(m, inner_row(m, 1, (1, 2, 0))), both_ways((points - 1, 2 * m - 2, 1)), m)
            self.assertEqual(told_ends(m, inner_row(m, 2, (2, 0, 1))), both_ways((m * m, m * m - 1, 1)), m)

    def test_door_at_a_corner(self):
        self.assertEqual(told_ends(3, side_row(3, [1, 0, 0, 0])), both_ways((9, 8, 1)))
        self.assertEqual(told_ends(3, side_row(3, [1, 1, 1, 0])), both_ways((11, 4, 1)))

    def test_three_rooms_with_both_ways_among_them(self):
        row = [2, 2, 2, 0, 2, 2, 1, 2, 0, 1]
        self.assertEqual(told_ends(3, row), both_ways((9, 8, 1), (7, 10, 1), (11, 4, 1)))

    def test_line_from_room_to_room(self):
        # From room 5 straight to room 1, from room 3 by room 7 to room 6.
        row = [2, 2, 2, 0, 1, 0, 1, 2, 1, 1]
        self.assertEqual(told_ends(3, row), both_ways((5, 1, 1), (3, 6, 2), (11, 4, 1)))

    def test_line_from_side_to_side(self):
        row = [2, 2, 2, 0, 2, 1, 1, 1, 0, 1]
        self.assertEqual(told_ends(3, row), both_ways((9, 10, 4), (11, 4, 1)))

    def test_outer_sides_with_many_doors(self):
        self.assertEqual(told_ends(9, side_row(9, [1, 0] * 5)), both_ways(
            (81, 80, 1), (79, 82, 1), (83, 76, 1), (71, 84, 1), (85, 64, 1),
            (55, 86, 1), (87, 44, 1), (31, 88, 1), (89, 16, 1),
        ))

    def test_round(self):
        # Rooms 8, 9, 10, 14, 13 and 12 are the round: none of them is an end.
        row = [2, 2, 2, 2, 0, 1, 1, 1, 1, 1, 0, 1, 1, 1, 1]
        self.assertEqual(told_ends(4, row), both_ways((19, 6, 1)))
        for k in (8, 9, 10, 14, 13, 12):
            self.assertEqual(other(4, k, row), [-33], k)

    def test_long_line_of_size_9(self):
        # Of the 81 rooms 8 have one colour alone, at the roots of the teeth; the line leads through all others.
        self.assertEqual(told_ends(9, comb_row(9)), both_ways((81, 0, 73)))

    def test_as_the_doors_lie(self):
        for m, row in fair_calls():
            expected = {end: [line[-1], len(line) - 1] for end, line in expected_ways(m, row).items()}
            self.assertEqual(told_ends(m, row), expected, (m, row))


class WhatHolds(unittest.TestCase):
    def test_other_end_of_the_other_end(self):
        for m, row in fair_calls():
            for end, (reached, steps) in told_ends(m, row).items():
                self.assertEqual(other(m, reached, row), [end, steps], (m, row, end))
                self.assertNotEqual(reached, end, (m, row))
                self.assertGreaterEqual(steps, 1, (m, row))

    def test_end_at_which_it_begins_and_end_at_which_it_stops(self):
        for m, row in fair_calls():
            numbers = lines(m, row)[1:]
            ends = told_ends(m, row)
            for end, (reached, steps) in ends.items():
                begins = numbers[2 * end] > 0
                self.assertEqual(numbers[2 * end + 1] > 0, not begins, (m, row, end))
                self.assertEqual(numbers[2 * reached] > 0, not begins, (m, row, end))

    def test_which_points_are_ends(self):
        for m, row in fair_calls():
            colour = dict(zip(places(m), row))
            expected = found(m, row)[1::2]
            for side in range(m):
                if {colour[(side + 1, m - side - 1)], colour[(side, m - side)]} == {0, 1}:
                    expected.append(m * m + side)
            self.assertEqual(list(told_ends(m, row)), expected, (m, row))

    def test_from_a_room_to_one_of_the_other_way_or_out(self):
        for m, row in fair_calls():
            answer = found(m, row)
            turns = dict(zip(answer[1::2], answer[2::2]))
            for room, turn in turns.items():
                reached = other(m, room, row)[0]
                if reached < m * m:
                    self.assertEqual(turns[reached], 3 - turn, (m, row, room))
                else:
                    self.assertLess(reached, m * m + m, (m, row, room))


class Steps(unittest.TestCase):
    # Rows of fair colours never disagree with themselves, so what is no step is told of other rows.
    def test_both_say_so(self):
        row = [2, 0, 0, 1]
        self.assertEqual([step_from(row, point, 0) for point in (0, 1)], [2, 0])
        self.assertEqual([step_from(row, point, 1) for point in (0, 1)], [0, 1])
        self.assertEqual(line_from(row, 0), [0, 1])
        self.assertEqual(line_from(row, 1), [1, 0])

    def test_one_alone_says_so(self):
        for row in ([2, 0, 0, 0], [0, 0, 0, 1], [2, 0, 2, 0], [0, 1, 0, 1]):
            for point in (0, 1):
                self.assertEqual(step_from(row, point, 0), 0, row)
                self.assertEqual(step_from(row, point, 1), 0, row)
                self.assertFalse(is_end(row, point), row)

    def test_two_say_that_the_same_is_next(self):
        # Points 0 and 1 both say 2 is next, and 2 says 1 is before it; so from 0 no step leads.
        row = [3, 0, 3, 0, 0, 2]
        self.assertEqual([is_end(row, point) for point in (0, 1, 2)], [False, True, True])
        self.assertEqual(line_from(row, 1), [1, 2])
        self.assertEqual(line_from(row, 2), [2, 1])

    def test_round_and_step_to_itself(self):
        self.assertFalse(is_end([1, 1], 0))
        self.assertEqual([is_end([2, 2, 1, 1], point) for point in (0, 1)], [False, False])


class Refusals(unittest.TestCase):
    def test_points_that_are_there_and_that_are_not(self):
        for m in range(1, 10):
            points = m * m + m
            row = side_row(m, [1] * m + [0])
            self.assertEqual(other(m, points - 1, row), [2 * m - 2, 1], m)
            for k in (points, points + 1, 2 * points, 4294967294, LARGEST):
                self.assertEqual(other(m, k, row), [-2], (m, k))

    def test_points_that_are_no_ends(self):
        # By side 0 through rooms 3 and 1 to room 0; room 2 has no door, and side 1 is none.
        row = [2, 0, 0, 1, 0, 1]
        for k in (3, 1, 2, 5):
            self.assertEqual(other(2, k, row), [-33], k)

    def test_last_point_that_is_no_end(self):
        row = side_row(9, [1] + [0] * 9)
        self.assertEqual(other(9, 89, row), [-33])
        self.assertEqual(other(9, 90, row), [-2])

    def test_refused_ahead_of_the_point(self):
        for m, k, row in refused_calls_with_points():
            self.assertEqual(other(m, k, row), [-22], (m, k, row))

    def test_size_and_row_by_hand(self):
        for k in (0, 1, 2, 110, LARGEST):
            for m in (0, 10, LARGEST):
                for row in ([], [2, 0, 1], [2, 0, 3], row_with(10, {}), [LARGEST] * 200):
                    self.assertEqual(other(m, k, row), [-22], (m, k, row))
            for row in ([], [2, 0], [2, 0, 1, 1], [0, 0, 1], [2, 1, 1], [2, 0, 2], [2, 0, 3], [2, LARGEST, 1],
                        [2] * 200):
                self.assertEqual(other(1, k, row), [-22], (k, row))


class FormOfTheAnswer(unittest.TestCase):
    def calls(self):
        return [(1, 0, [2, 0, 1]), (1, 1, [2, 0, 1]), (3, 7, [2, 2, 2, 0, 2, 2, 1, 2, 0, 1]), (9, 81, comb_row(9)),
                (9, 0, comb_row(9)), (9, 1, comb_row(9)), (9, 90, comb_row(9)), (1, 0, [0, 0, 0]), (9, 0, []),
                (0, 0, [2, 0, 1]), (10, 0, []), (LARGEST, LARGEST, [LARGEST])]

    def test_kinds(self):
        for m, k, row in self.calls():
            answer = other(m, k, row)
            self.assertIs(type(answer), list)
            self.assertEqual({type(number) for number in answer}, {int})
            self.assertEqual(len(answer), 1 if answer[0] < 0 else 2)

    def test_what_is_handed_in_stays(self):
        for m, k, row in self.calls():
            handed = NoChanges(row)
            other(m, k, handed)
            self.assertEqual(handed, row)

    def test_nothing_is_kept(self):
        for m, k, row in self.calls():
            before = other(m, k, row)
            expected = list(before)
            before.append(7)
            before[0] = 7
            other(2, 4, [2, 0, 0, 1, 0, 1])
            self.assertEqual(other(m, k, row), expected)


if __name__ == "__main__":
    unittest.main()
