"""What the document promises over the whole program, told by its functions alone."""

import unittest

from tests.triangles import NoChanges, all_rows, comb_row, fair_calls, places
from threecolours.rooms import corners, fair, first, found, lines, other, rooms, way


def turns_of(m, row):
    """Of each room that is found which way round its colours stand."""
    answer = found(m, row)
    return dict(zip(answer[1::2], answer[2::2]))


def outer_doors(m, row):
    """The points whose outer sides have the colours 0 and 1."""
    colour = dict(zip(places(m), row))
    ends = {m * m + i: {colour[(i + 1, m - i - 1)], colour[(i, m - i)]} for i in range(m)}
    return [point for point, colours in ends.items() if colours == {0, 1}]


class WhereThreeColoursMeet(unittest.TestCase):
    def test_the_calls_cover_sizes_and_all_rows_of_the_small_ones(self):
        calls = fair_calls()
        self.assertEqual({m for m, row in calls}, set(range(1, 10)))
        for m in (1, 2, 3):
            for row in all_rows(m):
                self.assertIn((m, row), calls)
        for m, row in calls:
            self.assertEqual(fair(m, row), [1], (m, row))

    def test_they_meet_somewhere_and_first_tells_such_a_room(self):
        for m, row in fair_calls():
            turns = turns_of(m, row)
            self.assertGreaterEqual(len(turns), 1, (m, row))
            self.assertEqual(found(m, row)[0], len(turns), (m, row))
            self.assertIn(first(m, row)[0], turns, (m, row))

    def test_first_tells_a_room_that_stands_round_on_the_left(self):
        for m, row in fair_calls():
            self.assertEqual(turns_of(m, row)[first(m, row)[0]], 1, (m, row))

    def test_rooms_that_are_found_have_all_three_colours_at_their_corners(self):
        for m, row in fair_calls():
            colour = dict(zip(places(m), row))
            turns = turns_of(m, row)
            for k in range(rooms(m)[0]):
                told = corners(m, k)
                met = [colour[(told[at], told[at + 1])] for at in (1, 4, 7)]
                self.assertEqual(sorted(met) == [0, 1, 2], k in turns, (m, row, k))
                if k in turns:
                    left = met in ([0, 1, 2], [1, 2, 0], [2, 0, 1])
                    self.assertEqual(turns[k], 1 if left else 2, (m, row, k))

    def test_one_more_stands_round_on_the_left(self):
        for m, row in fair_calls():
            turns = list(turns_of(m, row).values())
            self.assertEqual(turns.count(1), turns.count(2) + 1, (m, row))
            self.assertEqual(turns.count(1) + turns.count(2), len(turns), (m, row))

    def test_ends_are_the_rooms_that_are_found_and_the_outer_doors(self):
        for m, row in fair_calls():
            ends = list(turns_of(m, row)) + outer_doors(m, row)
            for k in range(m * m + m):
                for answer in (other(m, k, row), way(m, k, row)):
                    self.assertEqual(answer == [-33], k not in ends, (m, row, k))
                    self.assertEqual(answer[0] < 0, k not in ends, (m, row, k))

    def test_from_a_room_to_one_of_the_other_way_or_to_an_outer_door(self):
        to_rooms = to_doors = 0
        for m, row in fair_calls():
            turns = turns_of(m, row)
            doors = outer_doors(m, row)
            for room, turn in turns.items():
                reached = other(m, room, row)[0]
                if reached in turns:
                    self.assertEqual(turns[reached], 3 - turn, (m, row, room))
                    to_rooms += 1
                else:
                    self.assertIn(reached, doors, (m, row, room))
                    to_doors += 1
        self.assertGreater(min(to_rooms, to_doors), 100)


class CallsOneAfterAnother(unittest.TestCase):
    def answers(self, m, row):
        listed = [fair(m, row), rooms(m), found(m, row), lines(m, row), first(m, row)]
        for k in (0, 1, m * m, m * m + m):
            listed += [other(m, k, row), way(m, k, row), corners(m, k)]
        return listed

    def test_no_call_changes_what_another_answers(self):
        calls = [(1, [2, 0, 1]), (3, [2, 2, 2, 0, 2, 2, 1, 2, 0, 1]), (9, comb_row(9)), (2, [2, 0, 0, 0, 0, 1]), (0, [])]
        handed = [(m, NoChanges(row)) for m, row in calls]
        once = [self.answers(m, row) for m, row in handed]
        again = [self.answers(m, row) for m, row in reversed(handed)]
        self.assertEqual(once, again[::-1])
        self.assertEqual([row for m, row in handed], [row for m, row in calls])


if __name__ == "__main__":
    unittest.main()
