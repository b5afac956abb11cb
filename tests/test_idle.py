import itertools
import unittest

from camps.majority import idle, won
from plain import GREATEST, drawn_lands, swapped, wins


def can_be_spared(own, other):
    """How many votes a camp can do without, one by one, and win the district still; all, if it doesn't win."""
    if own <= other:
        return own
    spared = 0
    while own - spared - 1 > other:
        spared += 1
    return spared


def spared_in_each(k, land):
    return [can_be_spared(land[at + k], land[at + 1 - k]) for at in range(0, len(land), 2)]


def without(k, land, spared):
    left = list(land)
    for district, votes in enumerate(spared):
        left[2 * district + k] -= votes
    return left


class Ordinary(unittest.TestCase):
    def test_camp_0_is_told_first(self):
        self.assertEqual(idle([10, 4]), [5, 4])
        self.assertEqual(idle([4, 10]), [4, 5])

    def test_several_districts(self):
        self.assertEqual(idle([10, 4, 3, 8, 5, 5]), [5 + 3 + 5, 4 + 4 + 5])
        self.assertEqual(idle([10, 4, 3, 8, 7, 2]), [5 + 3 + 4, 4 + 4 + 2])


class NamedEdges(unittest.TestCase):
    def test_no_districts(self):
        self.assertEqual(idle([]), [0, 0])

    def test_nobody_votes(self):
        for districts in range(1, 8):
            self.assertEqual(idle([0, 0] * districts), [0, 0])

    def test_as_many_votes_for_both(self):
        self.assertEqual(idle([1, 1]), [1, 1])
        self.assertEqual(idle([5, 5]), [5, 5])
        self.assertEqual(idle([5, 5, 3, 3]), [8, 8])

    def test_one_vote_more(self):
        self.assertEqual(idle([6, 5]), [0, 5])
        self.assertEqual(idle([5, 6]), [5, 0])
        self.assertEqual(idle([7, 5]), [1, 5])
        self.assertEqual(idle([5, 7]), [5, 1])

    def test_the_other_camp_has_none(self):
        self.assertEqual(idle([1, 0]), [0, 0])
        self.assertEqual(idle([0, 1]), [0, 0])
        self.assertEqual(idle([9, 0]), [8, 0])
        self.assertEqual(idle([0, 9]), [0, 8])

    def test_a_district_without_votes(self):
        self.assertEqual(idle([0, 0, 4, 2, 0, 0]), [1, 2])

    def test_a_lead_without_most_districts(self):
        self.assertEqual(idle([2, 1, 4, 4, 0, 0]), [4, 5])

    def test_thousand_votes(self):
        self.assertEqual(idle([1000, 0]), [999, 0])
        self.assertEqual(idle([0, 1000]), [0, 999])
        self.assertEqual(idle([1000, 999]), [0, 999])
        self.assertEqual(idle([1000, 1000]), [1000, 1000])

    def test_seven_districts(self):
        self.assertEqual(idle([1000, 0] * 7), [6993, 0])
        self.assertEqual(idle([1000, 1000] * 7), [7000, 7000])
        self.assertEqual(idle([3, 1, 1, 3, 2, 2, 0, 0, 1, 0, 0, 1, 9, 4]), [1 + 1 + 2 + 4, 1 + 1 + 2 + 4])


class AgainstSparingOneByOne(unittest.TestCase):
    def hold(self, land):
        self.assertEqual(idle(land), [sum(spared_in_each(k, land)) for k in (0, 1)], land)

    def test_one_district(self):
        for land in itertools.product(range(15), repeat=2):
            self.hold(list(land))

    def test_two_districts(self):
        for land in itertools.product(range(5), repeat=4):
            self.hold(list(land))

    def test_drawn_lands(self):
        for land in drawn_lands():
            self.hold(land)


class WhatHolds(unittest.TestCase):
    def test_without_idle_votes_camp_0_wins_as_many_districts(self):
        for land in drawn_lands():
            spared = spared_in_each(0, land)
            left = without(0, land, spared)
            self.assertEqual(idle(land)[0], sum(spared), land)
            self.assertEqual(won(left)[0], won(land)[0], land)
            # Of its votes none is idle any more.
            self.assertEqual(idle(left)[0], 0, land)

    def test_without_idle_votes_of_either_both_win_as_many(self):
        for land in drawn_lands():
            left = without(0, without(1, land, spared_in_each(1, land)), spared_in_each(0, land))
            self.assertEqual(sum(left), sum(land) - sum(idle(land)), land)
            self.assertEqual(wins(left), wins(land), land)

    def test_no_more_than_a_camp_has(self):
        for land in drawn_lands():
            for k in (0, 1):
                self.assertLessEqual(idle(land)[k], sum(land[k::2]), land)

    def test_camps_called_otherwise(self):
        for land in drawn_lands():
            first, second = idle(land)
            self.assertEqual(idle(swapped(land)), [second, first], land)


class Refusals(unittest.TestCase):
    def test_an_odd_number_of_numbers(self):
        for length in range(1, 18, 2):
            self.assertEqual(idle([1] * length), [-22], length)
            self.assertEqual(idle([0] * length), [-22], length)

    def test_more_than_seven_districts(self):
        for length in (16, 18):
            self.assertEqual(idle([0] * length), [-22], length)
            self.assertEqual(idle([2, 1] * (length // 2)), [-22], length)

    def test_a_number_above_thousand_in_any_place(self):
        for length in (2, 6, 14):
            for place in range(length):
                for votes in (1001, GREATEST):
                    land = [3] * length
                    land[place] = votes
                    self.assertEqual(idle(land), [-22], land)

    def test_the_greatest_numbers(self):
        for length in range(1, 19):
            self.assertEqual(idle([GREATEST] * length), [-22], length)


if __name__ == "__main__":
    unittest.main()
