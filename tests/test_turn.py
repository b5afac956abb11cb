import itertools
import random
import unittest

from camps.majority import turn, won
from plain import GREATEST, after, drawn_lands, leads, swapped


def least(k, land, choices):
    """The answer by a plain search: every way that takes one of the choices in each district."""
    found = [[sum(way)] + list(way) for way in itertools.product(*choices) if leads(k, after(k, land, way))]
    return min(found) if found else [-33]


def every_number(k, land):
    return [range(land[at + 1 - k] + 1) for at in range(0, len(land), 2)]


def first_of_each_outcome(k, land):
    """Of each district the smallest number that loses, that ties, and that wins it, counted up one by one."""
    choices = []
    for at in range(0, len(land), 2):
        own = land[at + k]
        other = land[at + 1 - k]
        smallest = {}
        for over in range(other + 1):
            outcome = (own + over > other - over, own + over == other - over)
            smallest.setdefault(outcome, over)
        choices.append(sorted(smallest.values()))
    return choices


class Ordinary(unittest.TestCase):
    def test_it_leads_already(self):
        self.assertEqual(turn(0, [10, 4, 3, 8, 7, 2]), [0, 0, 0, 0])
        self.assertEqual(turn(1, [4, 10, 8, 3, 2, 7]), [0, 0, 0, 0])

    def test_one_district_is_turned(self):
        self.assertEqual(turn(1, [10, 4, 3, 8, 7, 2]), [3, 0, 0, 3])
        self.assertEqual(turn(0, [3, 8]), [3, 3])

    def test_voters_go_over_where_it_takes_fewest(self):
        self.assertEqual(turn(0, [0, 9, 1, 4, 5, 0]), [2, 0, 2, 0])
        self.assertEqual(turn(0, [1, 4, 0, 9, 5, 0]), [2, 2, 0, 0])

    def test_more_than_one_district_must_turn(self):
        self.assertEqual(turn(0, [0, 1, 0, 1]), [2, 1, 1])
        self.assertEqual(turn(0, [0, 3, 0, 5, 0, 7]), [5, 2, 3, 0])


class NamedEdges(unittest.TestCase):
    def test_no_districts(self):
        self.assertEqual(turn(0, []), [-33])
        self.assertEqual(turn(1, []), [-33])

    def test_nobody_votes(self):
        for districts in range(1, 8):
            self.assertEqual(turn(0, [0, 0] * districts), [-33])
            self.assertEqual(turn(1, [0, 0] * districts), [-33])

    def test_one_vote_in_all_is_enough_for_either(self):
        self.assertEqual(turn(0, [0, 0, 0, 1, 0, 0]), [1, 0, 1, 0])
        self.assertEqual(turn(1, [0, 0, 0, 1, 0, 0]), [0, 0, 0, 0])

    def test_as_many_votes_for_both(self):
        self.assertEqual(turn(0, [5, 5]), [1, 1])
        self.assertEqual(turn(1, [5, 5]), [1, 1])
        self.assertEqual(turn(0, [5, 5, 3, 3]), [1, 0, 1])

    def test_as_many_districts_for_both_is_no_lead(self):
        self.assertEqual(turn(0, [5, 0, 0, 5, 2, 2]), [1, 0, 0, 1])
        self.assertEqual(turn(0, [5, 0, 0, 5]), [3, 0, 3])

    def test_one_vote_more(self):
        self.assertEqual(turn(0, [6, 5]), [0, 0])
        self.assertEqual(turn(1, [6, 5]), [1, 1])
        self.assertEqual(turn(0, [5, 6]), [1, 1])

    def test_a_tie_that_is_enough(self):
        self.assertEqual(turn(0, [3, 1, 1, 3]), [1, 0, 1])
        self.assertEqual(turn(1, [3, 1, 1, 3]), [1, 1, 0])
        self.assertEqual(turn(0, [9, 0, 2, 8]), [3, 0, 3])

    def test_a_tie_that_is_not_enough(self):
        self.assertEqual(turn(0, [1, 3]), [2, 2])
        self.assertEqual(turn(0, [1, 3, 0, 0]), [2, 2, 0])

    def test_a_tie_and_a_win_together(self):
        self.assertEqual(turn(0, [1, 3, 4, 4]), [2, 1, 1])

    def test_a_district_without_votes(self):
        self.assertEqual(turn(0, [0, 0, 0, 4]), [3, 0, 3])
        self.assertEqual(turn(1, [2, 1, 0, 0]), [1, 1, 0])

    def test_a_lead_without_most_districts(self):
        self.assertEqual(turn(0, [2, 1, 0, 0, 4, 4]), [0, 0, 0, 0])
        self.assertEqual(turn(0, [0, 0, 4, 4, 0, 0]), [1, 0, 1, 0])

    def test_all_gone_over(self):
        self.assertEqual(turn(0, [0, 1]), [1, 1])
        self.assertEqual(turn(0, [0, 2]), [2, 2])
        self.assertEqual(turn(1, [2, 0, 1, 0]), [2, 1, 1])

    def test_thousand_votes(self):
        self.assertEqual(turn(0, [0, 1000]), [501, 501])
        self.assertEqual(turn(0, [1000, 1000]), [1, 1])
        self.assertEqual(turn(1, [1000, 999]), [1, 1])
        self.assertEqual(turn(1, [1000, 0, 0, 1000]), [500, 500, 0])

    def test_seven_districts(self):
        self.assertEqual(turn(0, [0, 1000] * 7), [2004, 0, 0, 0, 501, 501, 501, 501])
        self.assertEqual(turn(1, [0, 1000] * 7), [0] * 8)
        self.assertEqual(turn(1, [1, 1] * 7), [1, 0, 0, 0, 0, 0, 0, 1])


class OfAsFew(unittest.TestCase):
    def test_the_earlier_district_has_fewer(self):
        self.assertEqual(turn(0, [0, 1, 0, 1, 1, 0]), [1, 0, 1, 0])
        self.assertEqual(turn(0, [2, 2, 2, 2, 2, 2]), [1, 0, 0, 1])

    def test_a_smaller_number_first_though_more_districts_change(self):
        # 2 in the first and 0 in the others, or 0 in the first and 1 in two others, are as few.
        land = [0, 2, 1, 1, 1, 1]
        self.assertEqual(turn(0, land), [2, 0, 1, 1])
        self.assertTrue(leads(0, after(0, land, [1, 1, 0])))

    def test_where_two_ways_first_differ_counts(self):
        self.assertEqual(turn(0, [1, 1, 0, 2, 1, 1]), [2, 0, 1, 1])
        self.assertEqual(turn(0, [1, 1, 1, 1, 0, 2]), [2, 0, 0, 2])

    def test_the_order_counts_among_ways_with_as_few_to_the_same_lead(self):
        land = [0, 1, 0, 2, 0, 3, 1, 1]
        self.assertTrue(leads(0, after(0, land, [1, 1, 0, 1])))
        self.assertEqual(turn(0, land), [3, 1, 0, 2, 0])
        self.assertEqual(turn(1, swapped(land)), [3, 1, 0, 2, 0])
        self.assertEqual(turn(0, [4, 3, 6, 6, 0, 3, 1, 5, 1, 3]), [3, 0, 0, 2, 0, 1])


class AgainstAPlainSearch(unittest.TestCase):
    def hold_against_search(self, districts, most):
        for land in itertools.product(range(most + 1), repeat=2 * districts):
            land = list(land)
            for k in (0, 1):
                self.assertEqual(turn(k, land), least(k, land, every_number(k, land)), (k, land))

    def test_one_district(self):
        self.hold_against_search(1, 12)

    def test_two_districts(self):
        self.hold_against_search(2, 5)

    def test_three_districts(self):
        self.hold_against_search(3, 3)

    def test_four_districts_of_all_these_kinds(self):
        kinds = [(0, 0), (1, 0), (1, 1), (0, 1), (0, 2), (0, 3), (1, 3)]
        for districts in itertools.product(kinds, repeat=4):
            land = [votes for district in districts for votes in district]
            self.assertEqual(turn(0, land), least(0, land, every_number(0, land)), land)
            self.assertEqual(turn(1, swapped(land)), turn(0, land), land)

    def test_three_districts_with_votes_up_to_five(self):
        draw = random.Random(3)
        for count in range(300):
            land = [draw.randint(0, 5) for place in range(6)]
            for k in (0, 1):
                self.assertEqual(turn(k, land), least(k, land, every_number(k, land)), (k, land))

    def test_seven_districts_with_one_vote_or_two(self):
        draw = random.Random(7)
        for count in range(30):
            land = [draw.randint(0, 2) for place in range(14)]
            for k in (0, 1):
                self.assertEqual(turn(k, land), least(k, land, every_number(k, land)), (k, land))

    def test_great_lands_against_every_outcome_of_each_district(self):
        draw = random.Random(1000)
        for count in range(40):
            districts = draw.randint(4, 7)
            most = draw.choice([4, 20, 1000])
            land = [draw.randint(0, most) for place in range(2 * districts)]
            for k in (0, 1):
                self.assertEqual(turn(k, land), least(k, land, first_of_each_outcome(k, land)), (k, land))


class WhatHolds(unittest.TestCase):
    def test_what_is_answered_makes_it_lead(self):
        for land in drawn_lands():
            for k in (0, 1):
                answer = turn(k, land)
                if answer == [-33]:
                    continue
                self.assertEqual(len(answer), 1 + len(land) // 2)
                self.assertEqual(answer[0], sum(answer[1:]))
                moved = after(k, land, answer[1:])
                self.assertGreaterEqual(min(moved), 0)
                self.assertTrue(leads(k, moved), (k, land))

    def test_it_can_be_just_if_it_leads_or_the_other_has_a_vote(self):
        for land in drawn_lands():
            for k in (0, 1):
                can_be = leads(k, land) or sum(land[1 - k::2]) > 0
                self.assertEqual(turn(k, land) != [-33], can_be, (k, land))

    def test_nobody_goes_over_just_if_it_leads(self):
        for land in drawn_lands():
            counts = won(land)
            for k in (0, 1):
                self.assertEqual(turn(k, land)[0] == 0, counts[k] > counts[1 - k], (k, land))

    def test_camps_called_otherwise(self):
        for land in drawn_lands():
            self.assertEqual(turn(0, land), turn(1, swapped(land)), land)
            self.assertEqual(turn(1, land), turn(0, swapped(land)), land)


class Refusals(unittest.TestCase):
    def test_k_above_one(self):
        for k in (2, 3, 1000, GREATEST):
            for land in ([], [0, 0], [3, 1], [1, 3, 2, 2], [1, 3] * 7):
                self.assertEqual(turn(k, land), [-22], (k, land))

    def test_an_odd_number_of_numbers(self):
        for length in range(1, 18, 2):
            for k in (0, 1):
                self.assertEqual(turn(k, [1] * length), [-22], length)
                self.assertEqual(turn(k, [0] * length), [-22], length)

    def test_more_than_seven_districts(self):
        for length in (16, 18):
            for k in (0, 1):
                self.assertEqual(turn(k, [0] * length), [-22], length)
                self.assertEqual(turn(k, [2, 1] * (length // 2)), [-22], length)

    def test_a_number_above_thousand_in_any_place(self):
        for length in (2, 6, 14):
            for place in range(length):
                for votes in (1001, GREATEST):
                    land = [3] * length
                    land[place] = votes
                    self.assertEqual(turn(0, land), [-22], land)
                    self.assertEqual(turn(1, land), [-22], land)

    def test_the_greatest_numbers(self):
        for length in range(19):
            self.assertEqual(turn(GREATEST, [GREATEST] * length), [-22], length)
        for length in range(1, 19):
            self.assertEqual(turn(1, [GREATEST] * length), [-22], length)


if __name__ == "__main__":
    unittest.main()
