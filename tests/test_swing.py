import itertools
import unittest

from camps.majority import swing, turn, won
from plain import GREATEST, after, drawn_lands, leads, swapped, wins


def swung(k, land, many):
    """land, when in each district so many, or all of the other camp's, have gone over to camp k."""
    return after(k, land, [min(many, other) for other in land[1 - k::2]])


def least(k, land):
    """The answer by counting up: the first number that makes camp k lead."""
    for many in range(1001):
        if leads(k, swung(k, land, many)):
            counts = wins(swung(k, land, many))
            return [many, counts[k], counts[1 - k]]
    return [-33]


class Ordinary(unittest.TestCase):
    def test_it_leads_already(self):
        self.assertEqual(swing(0, [10, 4, 3, 8, 7, 2]), [0, 2, 1])
        self.assertEqual(swing(1, [4, 10, 8, 3, 2, 7]), [0, 2, 1])

    def test_so_many_go_over_in_each_district(self):
        self.assertEqual(swing(1, [10, 4, 3, 8, 7, 2]), [3, 2, 0])
        self.assertEqual(swing(0, [0, 3, 0, 5, 0, 7]), [3, 2, 1])
        self.assertEqual(swing(0, [3, 8]), [3, 1, 0])

    def test_the_districts_that_the_other_one_keeps_are_told_last(self):
        self.assertEqual(swing(0, [3, 8, 0, 99, 5, 5, 5, 5]), [3, 3, 1])
        self.assertEqual(swing(1, [8, 3, 99, 0, 5, 5, 5, 5]), [3, 3, 1])

    def test_districts_that_neither_wins_are_not_told(self):
        self.assertEqual(swing(0, [6, 5, 1, 3, 2, 4, 0, 9, 7, 7]), [1, 2, 1])


class NamedEdges(unittest.TestCase):
    def test_no_districts(self):
        self.assertEqual(swing(0, []), [-33])
        self.assertEqual(swing(1, []), [-33])

    def test_nobody_votes(self):
        for districts in range(1, 8):
            self.assertEqual(swing(0, [0, 0] * districts), [-33])
            self.assertEqual(swing(1, [0, 0] * districts), [-33])

    def test_as_many_votes_for_both(self):
        for k in (0, 1):
            self.assertEqual(swing(k, [5, 5]), [1, 1, 0])
            self.assertEqual(swing(k, [5, 5, 3, 3, 1, 1]), [1, 3, 0])

    def test_as_many_districts_for_both_is_no_lead(self):
        self.assertEqual(swing(0, [5, 0, 0, 5]), [3, 2, 0])
        self.assertEqual(swing(1, [5, 0, 0, 5, 2, 2]), [1, 2, 1])

    def test_one_vote_more(self):
        self.assertEqual(swing(0, [6, 5]), [0, 1, 0])
        self.assertEqual(swing(1, [6, 5]), [1, 1, 0])
        self.assertEqual(swing(0, [5, 6]), [1, 1, 0])

    def test_a_tie_that_is_enough(self):
        self.assertEqual(swing(0, [3, 1, 1, 3]), [1, 1, 0])
        self.assertEqual(swing(1, [3, 1, 1, 3]), [1, 1, 0])
        self.assertEqual(swing(0, [9, 0, 2, 8]), [3, 1, 0])

    def test_a_tie_that_is_not_enough(self):
        self.assertEqual(swing(0, [1, 3]), [2, 1, 0])
        self.assertEqual(swing(1, [3, 1, 6, 4]), [2, 2, 0])

    def test_a_district_without_votes(self):
        self.assertEqual(swing(0, [0, 0, 0, 3]), [2, 1, 0])
        self.assertEqual(swing(1, [3, 0, 0, 0]), [2, 1, 0])
        self.assertEqual(swing(0, [0, 0, 0, 0, 0, 9, 7, 0]), [5, 2, 0])

    def test_a_lead_without_most_districts(self):
        self.assertEqual(swing(0, [2, 1, 0, 0, 4, 4, 0, 0]), [0, 1, 0])
        self.assertEqual(swing(1, [0, 0, 4, 4, 0, 0]), [1, 1, 0])

    def test_all_gone_over(self):
        self.assertEqual(swing(0, [0, 1]), [1, 1, 0])
        self.assertEqual(swing(0, [0, 2]), [2, 1, 0])
        self.assertEqual(swing(1, [1, 0, 2, 0]), [1, 1, 0])

    def test_a_swing_greater_than_a_district(self):
        self.assertEqual(swing(0, [0, 1, 0, 9, 0, 9]), [5, 3, 0])
        self.assertEqual(swing(1, [2, 0, 90, 0, 0, 0, 90, 0]), [45, 1, 0])
        self.assertEqual(swing(1, [2, 0, 91, 0, 0, 0, 91, 0]), [46, 3, 0])
        self.assertEqual(swing(0, [0, 0, 0, 2, 1, 1000, 0, 1000]), [500, 2, 0])

    def test_votes_above_thousand_after_the_swing_count(self):
        self.assertEqual(swing(0, [1000, 1000]), [1, 1, 0])
        self.assertEqual(swing(1, [1000, 1000, 1000, 998, 999, 1000]), [1, 2, 0])

    def test_thousand_votes(self):
        self.assertEqual(swing(0, [0, 1000]), [501, 1, 0])
        self.assertEqual(swing(0, [0, 999]), [500, 1, 0])
        self.assertEqual(swing(1, [1000, 999]), [1, 1, 0])
        self.assertEqual(swing(1, [1000, 0, 0, 1000]), [500, 1, 0])

    def test_seven_districts(self):
        self.assertEqual(swing(0, [0, 1000] * 7), [501, 7, 0])
        self.assertEqual(swing(1, [0, 1000] * 7), [0, 7, 0])
        self.assertEqual(swing(0, [0, 2, 0, 4, 0, 6, 0, 8, 0, 10, 0, 12, 0, 14]), [5, 4, 2])


class AgainstCountingUp(unittest.TestCase):
    def hold_against_counting(self, districts, most):
        for land in itertools.product(range(most + 1), repeat=2 * districts):
            land = list(land)
            if sum(land) == 0:
                continue
            for k in (0, 1):
                self.assertEqual(swing(k, land), least(k, land), (k, land))

    def test_one_district(self):
        self.hold_against_counting(1, 20)

    def test_two_districts(self):
        self.hold_against_counting(2, 6)

    def test_three_districts(self):
        self.hold_against_counting(3, 3)

    def test_drawn_lands(self):
        for land in drawn_lands():
            for k in (0, 1):
                self.assertEqual(swing(k, land), least(k, land), (k, land))


class WhatHolds(unittest.TestCase):
    def test_so_many_make_it_lead_fewer_do_not_more_do_not_undo_it(self):
        for land in drawn_lands()[::4]:
            for k in (0, 1):
                answer = swing(k, land)
                enough = answer[0] if answer != [-33] else 1001
                for many in range(max(enough - 3, 0), min(enough + 4, 1001)):
                    self.assertEqual(leads(k, swung(k, land, many)), many >= enough, (k, land, many))
                for many in range(0, 1001, 50):
                    self.assertEqual(leads(k, swung(k, land, many)), many >= enough, (k, land, many))

    def test_every_smaller_and_every_greater_number_on_small_lands(self):
        for land in itertools.product(range(5), repeat=4):
            land = list(land)
            if sum(land) == 0:
                continue
            for many in range(12):
                self.assertEqual(leads(0, swung(0, land, many)), many >= swing(0, land)[0], (land, many))

    def test_what_is_told_is_won_so(self):
        for land in drawn_lands():
            for k in (0, 1):
                answer = swing(k, land)
                if answer != [-33]:
                    counts = wins(swung(k, land, answer[0]))
                    self.assertEqual(answer[1:], [counts[k], counts[1 - k]], (k, land))

    def test_0_just_where_it_leads_already(self):
        for land in drawn_lands():
            counts = won(land)
            for k in (0, 1):
                answer = swing(k, land)
                self.assertEqual(answer[0] == 0, counts[k] > counts[1 - k], (k, land))
                if answer[0] == 0:
                    self.assertEqual(answer, [0, counts[k], counts[1 - k]], (k, land))

    def test_it_can_be_just_if_anybody_votes(self):
        for land in drawn_lands():
            for k in (0, 1):
                self.assertEqual(swing(k, land) == [-33], sum(land) == 0, (k, land))

    def test_no_more_in_each_district_than_turn_needs_in_all(self):
        for land in drawn_lands():
            for k in (0, 1):
                self.assertLessEqual(swing(k, land)[0], turn(k, land)[0], (k, land))

    def test_camps_called_otherwise(self):
        for land in drawn_lands():
            self.assertEqual(swing(0, land), swing(1, swapped(land)), land)
            self.assertEqual(swing(1, land), swing(0, swapped(land)), land)


class Refusals(unittest.TestCase):
    def test_k_above_one(self):
        for k in (2, 3, 1000, GREATEST):
            for land in ([], [0, 0], [3, 1], [1, 3, 2, 2], [1, 3] * 7):
                self.assertEqual(swing(k, land), [-22], (k, land))

    def test_an_odd_number_of_numbers(self):
        for length in range(1, 18, 2):
            for k in (0, 1):
                self.assertEqual(swing(k, [1] * length), [-22], length)
                self.assertEqual(swing(k, [0] * length), [-22], length)

    def test_more_than_seven_districts(self):
        for length in (16, 18):
            for k in (0, 1):
                self.assertEqual(swing(k, [0] * length), [-22], length)
                self.assertEqual(swing(k, [2, 1] * (length // 2)), [-22], length)

    def test_a_number_above_thousand_in_any_place(self):
        for length in (2, 6, 14):
            for place in range(length):
                for votes in (1001, GREATEST):
                    land = [3] * length
                    land[place] = votes
                    self.assertEqual(swing(0, land), [-22], land)
                    self.assertEqual(swing(1, land), [-22], land)

    def test_the_greatest_numbers(self):
        for length in range(19):
            self.assertEqual(swing(GREATEST, [GREATEST] * length), [-22], length)
        for length in range(1, 19):
            self.assertEqual(swing(0, [GREATEST] * length), [-22], length)
            self.assertEqual(swing(1, [GREATEST] * length), [-22], length)


if __name__ == "__main__":
    unittest.main()
