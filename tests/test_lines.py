import unittest

from tests.triangles import (
    LARGEST, NoChanges, all_rows, expected_lines, fair_calls, is_inner, places, refused_calls, row_with, side_row,
)
from threecolours.rooms import lines


def pairs(answer):
    """Of each point what is next and what is before, as they are told."""
    return list(zip(answer[1::2], answer[2::2]))


def told_pairs(m, row):
    """Of the points that aren't alone, by their numbers, what is next and what is before."""
    return {point: pair for point, pair in enumerate(pairs(lines(m, row))) if pair != (0, 0)}


class RowOfTheLines(unittest.TestCase):
    def test_size_1(self):
        self.assertEqual(lines(1, [2, 0, 1]), [4, 0, 2, 1, 0])

    def test_all_of_size_2(self):
        by_hand = [
            ([2, 0, 0, 1, 0, 1], [12, 0, 2, 1, 4, 0, 0, 2, 5, 4, 0, 0, 0]),
            ([2, 0, 0, 1, 1, 1], [12, 0, 2, 1, 3, 2, 6, 0, 0, 0, 0, 3, 0]),
            ([2, 0, 0, 2, 0, 1], [12, 0, 0, 0, 0, 0, 0, 0, 5, 4, 0, 0, 0]),
            ([2, 0, 0, 2, 1, 1], [12, 0, 0, 0, 3, 2, 6, 0, 0, 0, 0, 3, 0]),
            ([2, 2, 0, 1, 0, 1], [12, 0, 0, 0, 4, 0, 0, 2, 5, 4, 0, 0, 0]),
            ([2, 2, 0, 1, 1, 1], [12, 0, 0, 0, 0, 0, 6, 0, 0, 0, 0, 3, 0]),
            ([2, 2, 0, 2, 0, 1], [12, 0, 0, 0, 0, 0, 0, 0, 5, 4, 0, 0, 0]),
            ([2, 2, 0, 2, 1, 1], [12, 0, 0, 0, 0, 0, 6, 0, 0, 0, 0, 3, 0]),
        ]
        self.assertEqual([row for row, expected in by_hand], list(all_rows(2)))
        for row, expected in by_hand:
            self.assertEqual(lines(2, row), expected, row)

    def test_inner_place_of_each_colour(self):
        # 0: from room 3 by room 7 to room 6, and from the outer side 11 to room 4.
        self.assertEqual(lines(3, [2, 2, 2, 0, 2, 0, 1, 2, 1, 1]), [
            24, 0, 0, 0, 0, 0, 0, 8, 0, 0, 12, 0, 0, 0, 8, 7, 4, 0, 0, 0, 0, 0, 0, 5, 0,
        ])
        for colour in (1, 2):
            self.assertEqual(lines(3, [2, 2, 2, 0, 2, colour, 1, 2, 1, 1]), [
                24, 0, 0, 0, 0, 0, 0, 0, 0, 0, 12, 0, 0, 0, 0, 0, 0, 0, 0, 0, 0, 0, 0, 5, 0,
            ])

    def test_all_inner_places_of_one_colour(self):
        inner = {place: 0 for place in places(4) if is_inner(4, place)}
        # In at the corner of the 1, then down along the 1s of the side to the corner of the 2.
        self.assertEqual(told_pairs(4, row_with(4, inner, (0, 1, 2))), {
            16: (16, 0), 15: (14, 17), 13: (13, 16), 12: (9, 14), 8: (8, 13), 7: (2, 9), 1: (1, 8), 0: (0, 2),
        })
        inner = {place: 1 for place in places(4) if is_inner(4, place)}
        self.assertEqual(told_pairs(4, row_with(4, inner, (1, 2, 0))), {19: (7, 0), 6: (0, 20)})
        inner = {place: 2 for place in places(4) if is_inner(4, place)}
        self.assertEqual(told_pairs(4, row_with(4, inner, (2, 0, 1))), {16: (16, 0), 15: (0, 17)})

    def test_door_at_a_corner(self):
        self.assertEqual(told_pairs(3, side_row(3, [1, 0, 0, 0])), {9: (9, 0), 8: (0, 10)})
        self.assertEqual(told_pairs(3, side_row(3, [1, 1, 1, 0])), {11: (5, 0), 4: (0, 12)})

    def test_outer_side_into_its_room_out_of_it_and_no_door(self):
        # Side 0 and side 2 lead in, side 1 leads out.
        told = told_pairs(3, [2, 2, 2, 0, 2, 2, 1, 2, 0, 1])
        self.assertEqual(told, {9: (9, 0), 8: (0, 10), 7: (11, 0), 10: (0, 8), 11: (5, 0), 4: (0, 12)})
        # Side 0 and side 2 are no doors.
        told = told_pairs(3, side_row(3, [1, 1, 0, 0]))
        self.assertEqual(told, {10: (8, 0), 7: (0, 11)})

    def test_from_an_outer_side_to_another(self):
        # In by side 2, round the 1 on the outer side, and out by side 1.
        row = row_with(3, {(1, 1): 0, (2, 0): 0, (1, 2): 0, (2, 1): 1, (0, 2): 2})
        told = told_pairs(3, row)
        self.assertEqual(told, {
            11: (5, 0), 4: (4, 12), 3: (8, 5), 7: (11, 4), 10: (0, 8), 9: (9, 0), 8: (0, 10),
        })

    def test_line_from_room_to_room(self):
        # From room 5 straight to room 1, from room 3 by room 7 to room 6.
        self.assertEqual(lines(3, [2, 2, 2, 0, 1, 0, 1, 2, 1, 1]), [
            24, 0, 0, 0, 6, 0, 0, 8, 0, 0, 12, 2, 0, 0, 8, 7, 4, 0, 0, 0, 0, 0, 0, 5, 0,
        ])

    def test_outer_sides_with_many_doors(self):
        self.assertEqual(told_pairs(9, side_row(9, [1, 0] * 5)), {
            81: (81, 0), 80: (0, 82), 79: (83, 0), 82: (0, 80), 83: (77, 0), 76: (0, 84),
            71: (85, 0), 84: (0, 72), 85: (65, 0), 64: (0, 86), 55: (87, 0), 86: (0, 56),
            87: (45, 0), 44: (0, 88), 31: (89, 0), 88: (0, 32), 89: (17, 0), 16: (0, 90),
        })

    def test_round(self):
        # Round the 0 at (1, 2), with the 0 on the left: 8, 9, 10, 14, 13, 12, and 8 again.
        told = told_pairs(4, [2, 2, 2, 2, 0, 1, 1, 1, 1, 1, 0, 1, 1, 1, 1])
        self.assertEqual(told, {
            8: (10, 13), 9: (11, 9), 10: (15, 10), 14: (14, 11), 13: (13, 15), 12: (9, 14),
            19: (7, 0), 6: (0, 20),
        })

    def test_as_the_doors_lie(self):
        for m, row in fair_calls():
            self.assertEqual(lines(m, row), expected_lines(m, row), (m, row))


class WhatHolds(unittest.TestCase):
    def test_two_numbers_for_each_point(self):
        for m, row in fair_calls():
            answer = lines(m, row)
            self.assertEqual(answer[0], 2 * (m * m + m), (m, row))
            self.assertEqual(len(answer), 1 + answer[0], (m, row))
            self.assertTrue(all(0 <= number <= m * m + m for number in answer[1:]), (m, row))

    def test_next_and_before_say_the_same(self):
        for m, row in fair_calls():
            told = pairs(lines(m, row))
            for point, (after, before) in enumerate(told):
                if after > 0:
                    self.assertEqual(told[after - 1][1], point + 1, (m, row, point))
                if before > 0:
                    self.assertEqual(told[before - 1][0], point + 1, (m, row, point))


class Refusals(unittest.TestCase):
    def test_refused(self):
        for m, row in refused_calls():
            self.assertEqual(lines(m, row), [-22], (m, row))

    def test_size_and_row_by_hand(self):
        for m in (0, 10, LARGEST):
            for row in ([], [2, 0, 1], [2, 0, 3], [LARGEST] * 200):
                self.assertEqual(lines(m, row), [-22], (m, row))
        for row in ([], [2, 0], [2, 0, 1, 1], [0, 0, 1], [2, 1, 1], [2, 0, 2], [2, 0, 3], [2, LARGEST, 1]):
            self.assertEqual(lines(1, row), [-22], row)


class FormOfTheAnswer(unittest.TestCase):
    def calls(self):
        return [(1, [2, 0, 1]), (3, [2, 2, 2, 0, 2, 2, 1, 2, 0, 1]), (9, side_row(9, [1, 0] * 5)),
                (1, [0, 0, 0]), (9, []), (0, [2, 0, 1]), (10, []), (LARGEST, [LARGEST])]

    def test_kinds(self):
        for m, row in self.calls():
            answer = lines(m, row)
            self.assertIs(type(answer), list)
            self.assertEqual({type(number) for number in answer}, {int})

    def test_what_is_handed_in_stays(self):
        for m, row in self.calls():
            handed = NoChanges(row)
            lines(m, handed)
            self.assertEqual(handed, row)

    def test_nothing_is_kept(self):
        for m, row in self.calls():
            before = lines(m, row)
            expected = list(before)
            before.append(7)
            before[0] = 7
            lines(2, [2, 0, 0, 1, 0, 1])
            self.assertEqual(lines(m, row), expected)


if __name__ == "__main__":
    unittest.main()
