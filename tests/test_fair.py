import itertools
import unittest

from tests.triangles import LARGEST, NoChanges
from threecolours.rooms import fair

# Written out by hand: of each place, in order, the colours that are fair there.
ALLOWED = {
    1: ["2", "0", "1"],
    2: ["2", "02", "0",
        "12", "01",
        "1"],
    3: ["2", "02", "02", "0",
        "12", "012", "01",
        "12", "01",
        "1"],
    9: ["2", "02", "02", "02", "02", "02", "02", "02", "02", "0",
        "12", "012", "012", "012", "012", "012", "012", "012", "01",
        "12", "012", "012", "012", "012", "012", "012", "01",
        "12", "012", "012", "012", "012", "012", "01",
        "12", "012", "012", "012", "012", "01",
        "12", "012", "012", "012", "01",
        "12", "012", "012", "01",
        "12", "012", "01",
        "12", "01",
        "1"],
}


def lowest_row(m):
    return [int(allowed[0]) for allowed in ALLOWED[m]]


def highest_row(m):
    return [int(allowed[-1]) for allowed in ALLOWED[m]]


def is_allowed(m, row):
    return all(str(colour) in allowed for colour, allowed in zip(row, ALLOWED[m]))


class FairColours(unittest.TestCase):
    def test_fair_rows_of_each_size(self):
        for m in ALLOWED:
            self.assertEqual(fair(m, lowest_row(m)), [1], m)
            self.assertEqual(fair(m, highest_row(m)), [1], m)

    def test_all_rows_of_size_1_and_2(self):
        for m in (1, 2):
            for row in itertools.product(range(4), repeat=len(ALLOWED[m])):
                expected = 1 if is_allowed(m, row) else 0
                self.assertEqual(fair(m, list(row)), [expected], (m, row))

    def test_each_colour_at_each_place(self):
        for m in ALLOWED:
            for start in (lowest_row(m), highest_row(m)):
                for place, allowed in enumerate(ALLOWED[m]):
                    for colour in range(3):
                        row = list(start)
                        row[place] = colour
                        expected = 1 if str(colour) in allowed else 0
                        self.assertEqual(fair(m, row), [expected], (m, place, colour))

    def test_all_inner_places_of_one_colour(self):
        for colour in "012":
            row = [int(colour) if len(allowed) == 3 else int(allowed[0]) for allowed in ALLOWED[9]]
            self.assertEqual(fair(9, row), [1])


class ColoursThatAreNotFair(unittest.TestCase):
    def test_number_of_the_colour_is_0(self):
        # Size 2: (0, 1, 1) has no first number, (1, 0, 1) no second, (1, 1, 0) no third.
        self.assertEqual(fair(2, [2, 0, 0, 1, 0, 1]), [1])
        self.assertEqual(fair(2, [2, 0, 0, 0, 0, 1]), [0])
        self.assertEqual(fair(2, [2, 1, 0, 1, 0, 1]), [0])
        self.assertEqual(fair(2, [2, 0, 0, 1, 2, 1]), [0])

    def test_colour_above_2(self):
        for m in ALLOWED:
            for place in range(len(ALLOWED[m])):
                for colour in (3, 4, 255, 4294967294, LARGEST):
                    row = lowest_row(m)
                    row[place] = colour
                    self.assertEqual(fair(m, row), [0], (m, place, colour))

    def test_row_of_another_length(self):
        for m in ALLOWED:
            row = lowest_row(m)
            self.assertEqual(fair(m, row[:-1]), [0], m)
            self.assertEqual(fair(m, row[1:]), [0], m)
            for colour in (0, 1, 2, LARGEST):
                self.assertEqual(fair(m, row + [colour]), [0], m)
            self.assertEqual(fair(m, []), [0], m)
            self.assertEqual(fair(m, (row * 200)[:200]), [0], m)
            self.assertEqual(fair(m, [LARGEST] * 200), [0], m)

    def test_row_of_another_size(self):
        for m in ALLOWED:
            for other in ALLOWED:
                expected = 1 if m == other else 0
                self.assertEqual(fair(m, lowest_row(other)), [expected], (m, other))


class SizesThatAreRefused(unittest.TestCase):
    def test_size(self):
        rows = [[], [0], [1], [2], [LARGEST], [0] * 200, [LARGEST] * 200]
        rows += [lowest_row(m) for m in ALLOWED]
        for m in (0, 10, 11, LARGEST):
            for row in rows:
                self.assertEqual(fair(m, row), [-22], (m, row))

    def test_row_that_would_be_fair_for_size_10(self):
        row = [2] + [0] * 10
        for j in range(1, 10):
            row += [1] + [0] * (10 - j)
        row += [1]
        self.assertEqual(len(row), 66)
        self.assertEqual(fair(10, row), [-22])
        self.assertEqual(fair(10, [3] + row[1:]), [-22])

    def test_all_sizes_from_1_to_9_are_taken(self):
        for m in range(1, 10):
            self.assertEqual(fair(m, []), [0], m)


class FormOfTheAnswer(unittest.TestCase):
    def calls(self):
        return [(1, [2, 0, 1]), (1, [0, 0, 0]), (9, lowest_row(9)), (9, []), (0, [2, 0, 1]), (LARGEST, [])]

    def test_kinds(self):
        for m, row in self.calls():
            answer = fair(m, row)
            self.assertIs(type(answer), list)
            self.assertEqual([type(number) for number in answer], [int])

    def test_what_is_handed_in_stays(self):
        for m, row in self.calls():
            handed = NoChanges(row)
            fair(m, handed)
            self.assertEqual(handed, row)

    def test_nothing_is_kept(self):
        for m, row in self.calls():
            before = fair(m, row)
            expected = list(before)
            before.append(7)
            fair(2, [2, 1, 0, 1, 0, 1])
            self.assertEqual(fair(m, row), expected)


if __name__ == "__main__":
    unittest.main()
