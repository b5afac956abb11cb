import itertools
import unittest

from camps.majority import joined, won
from plain import GREATEST, drawn_lands, swapped, wins


def as_one(i, j, land):
    """land, with the votes of district j counted in district i and district j gone."""
    pairs = [land[at:at + 2] for at in range(0, len(land), 2)]
    pairs[i] = [pairs[i][0] + pairs[j][0], pairs[i][1] + pairs[j][1]]
    kept = pairs[:j] + pairs[j + 1:]
    return [votes for pair in kept for votes in pair]


def counted(land):
    counts = wins(land)
    return counts + [len(land) // 2 - sum(counts)]


def pairs_of_districts(land):
    return list(itertools.permutations(range(len(land) // 2), 2))


class Ordinary(unittest.TestCase):
    def test_one_camp_wins_both_together(self):
        self.assertEqual(joined(0, 1, [10, 4, 3, 8, 5, 5]), [1, 0, 1])
        self.assertEqual(joined(1, 2, [10, 4, 3, 8, 5, 5]), [1, 1, 0])
        self.assertEqual(joined(0, 2, [10, 4, 3, 8, 5, 5]), [1, 1, 0])

    def test_all_land_becomes_one_district(self):
        self.assertEqual(joined(0, 1, [10, 4, 3, 8]), [1, 0, 0])
        self.assertEqual(joined(0, 1, [4, 10, 8, 3]), [0, 1, 0])
        self.assertEqual(joined(0, 1, [4, 3, 3, 4]), [0, 0, 1])

    def test_two_wins_become_one(self):
        self.assertEqual(joined(0, 1, [2, 1, 3, 1, 1, 2]), [1, 1, 0])

    def test_the_other_districts_stay(self):
        self.assertEqual(joined(1, 3, [2, 1, 0, 9, 1, 2, 9, 0, 4, 4]), [1, 1, 2])

    def test_i_above_j_and_j_above_i(self):
        land = [9, 0, 1, 2, 4, 4, 1, 2]
        for i, j in pairs_of_districts(land):
            self.assertEqual(joined(i, j, land), joined(j, i, land), (i, j))
        self.assertEqual(joined(3, 0, land), [1, 1, 1])
        self.assertEqual(joined(0, 3, land), [1, 1, 1])

    def test_the_first_and_the_last_district(self):
        land = [1, 5, 2, 1, 6, 6, 7, 1]
        self.assertEqual(joined(0, 3, land), [2, 0, 1])
        self.assertEqual(joined(3, 0, land), [2, 0, 1])
        self.assertEqual(joined(0, 1, land), [1, 1, 1])
        self.assertEqual(joined(2, 3, land), [2, 1, 0])


class NamedEdges(unittest.TestCase):
    def test_nobody_votes(self):
        for districts in range(2, 8):
            self.assertEqual(joined(0, districts - 1, [0, 0] * districts), [0, 0, districts - 1])

    def test_as_many_votes_for_both(self):
        self.assertEqual(joined(0, 1, [5, 5, 3, 3]), [0, 0, 1])
        self.assertEqual(joined(0, 1, [5, 3, 3, 5, 1, 0]), [1, 0, 1])

    def test_one_vote_more(self):
        self.assertEqual(joined(0, 1, [5, 3, 3, 4]), [1, 0, 0])
        self.assertEqual(joined(0, 1, [3, 5, 4, 3]), [0, 1, 0])

    def test_a_district_without_votes(self):
        self.assertEqual(joined(0, 1, [0, 0, 2, 1]), [1, 0, 0])
        self.assertEqual(joined(0, 1, [1, 2, 0, 0, 0, 0]), [0, 1, 1])

    def test_a_lead_without_most_districts(self):
        self.assertEqual(joined(1, 2, [2, 1, 4, 4, 0, 0, 3, 3]), [1, 0, 2])

    def test_more_than_thousand_votes_of_one_camp(self):
        self.assertEqual(joined(0, 1, [1000, 0, 1, 0]), [1, 0, 0])
        self.assertEqual(joined(0, 1, [1000, 999, 1000, 1000]), [1, 0, 0])
        self.assertEqual(joined(0, 1, [999, 1000, 1000, 1000]), [0, 1, 0])
        self.assertEqual(joined(0, 1, [1000, 1000, 1000, 1000]), [0, 0, 1])
        self.assertEqual(joined(1, 0, [600, 700, 600, 100, 3, 4]), [1, 1, 0])

    def test_seven_districts(self):
        land = [1000, 0] + [1, 1] * 5 + [0, 999]
        self.assertEqual(joined(0, 6, land), [1, 0, 5])
        self.assertEqual(joined(6, 0, land), [1, 0, 5])
        self.assertEqual(joined(0, 1, land), [1, 1, 4])
        self.assertEqual(joined(5, 6, land), [1, 1, 4])
        for i, j in pairs_of_districts([1, 0] * 7):
            self.assertEqual(joined(i, j, [1, 0] * 7), [6, 0, 0])


class AgainstWritingItOut(unittest.TestCase):
    def hold(self, land):
        for i, j in pairs_of_districts(land):
            self.assertEqual(joined(i, j, land), counted(as_one(i, j, land)), (i, j, land))

    def test_two_districts(self):
        for land in itertools.product(range(5), repeat=4):
            self.hold(list(land))

    def test_three_districts(self):
        for land in itertools.product(range(3), repeat=6):
            self.hold(list(land))

    def test_drawn_lands(self):
        for land in drawn_lands():
            self.hold(land)

    def test_as_won_where_the_new_land_can_be_handed_in(self):
        for land in drawn_lands():
            for i, j in pairs_of_districts(land):
                if max(as_one(i, j, land)) <= 1000:
                    self.assertEqual(joined(i, j, land), won(as_one(i, j, land)), (i, j, land))


class WhatHolds(unittest.TestCase):
    def test_one_district_fewer_is_told(self):
        for land in drawn_lands():
            for i, j in pairs_of_districts(land):
                self.assertEqual(sum(joined(i, j, land)), len(land) // 2 - 1, (i, j, land))

    def test_camps_called_otherwise(self):
        for land in drawn_lands():
            for i, j in pairs_of_districts(land):
                first, second, neither = joined(i, j, land)
                self.assertEqual(joined(i, j, swapped(land)), [second, first, neither], (i, j, land))


class Refusals(unittest.TestCase):
    def test_the_first_number_that_is_no_district(self):
        for districts in range(1, 8):
            land = [2, 1] * districts
            self.assertEqual(joined(0, districts, land), [-2], districts)
            self.assertEqual(joined(districts, 0, land), [-2], districts)
            self.assertEqual(joined(districts, districts + 1, land), [-2], districts)

    def test_greater_numbers_that_are_no_district(self):
        land = [2, 1, 1, 2, 3, 3]
        for number in (4, 6, 7, 1000, GREATEST):
            self.assertEqual(joined(1, number, land), [-2], number)
            self.assertEqual(joined(number, 1, land), [-2], number)

    def test_no_districts_at_all(self):
        for i, j in itertools.product((0, 1, GREATEST), repeat=2):
            self.assertEqual(joined(i, j, []), [-2], (i, j))

    def test_the_same_district(self):
        for districts in range(1, 8):
            for i in range(districts):
                self.assertEqual(joined(i, i, [2, 1] * districts), [-22], (i, districts))

    def test_no_district_goes_ahead_of_the_same(self):
        for districts in range(8):
            for number in (districts, districts + 1, GREATEST):
                self.assertEqual(joined(number, number, [0, 0] * districts), [-2], (number, districts))

    def test_land_not_as_told_goes_ahead_of_no_district(self):
        for land in ([1], [1, 2, 3], [1001, 0], [0, 0, 0, 1001], [1, 0] * 8, [1, 0] * 9, [GREATEST] * 18):
            for i, j in ((0, 1), (0, 9), (9, 0), (9, 9), (0, 0), (GREATEST, GREATEST), (GREATEST, 0)):
                self.assertEqual(joined(i, j, land), [-22], (i, j, land))

    def test_an_odd_number_of_numbers(self):
        for length in range(1, 18, 2):
            self.assertEqual(joined(0, 1, [1] * length), [-22], length)
            self.assertEqual(joined(0, 1, [0] * length), [-22], length)

    def test_more_than_seven_districts(self):
        for length in (16, 18):
            self.assertEqual(joined(0, 1, [0] * length), [-22], length)
            self.assertEqual(joined(6, 7, [2, 1] * (length // 2)), [-22], length)

    def test_a_number_above_thousand_in_any_place(self):
        for length in (4, 6, 14):
            for place in range(length):
                for votes in (1001, GREATEST):
                    land = [3] * length
                    land[place] = votes
                    self.assertEqual(joined(0, 1, land), [-22], land)

    def test_the_greatest_numbers(self):
        for length in range(1, 19):
            self.assertEqual(joined(GREATEST, GREATEST, [GREATEST] * length), [-22], length)
            self.assertEqual(joined(0, 1, [GREATEST] * length), [-22], length)


if __name__ == "__main__":
    unittest.main()
