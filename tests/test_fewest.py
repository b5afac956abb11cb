import itertools
import random
import unittest

from camps.majority import fewest, turn
from plain import GREATEST, drawn_lands, leads, swapped


def cast(land):
    """How many voted in each district."""
    return [land[at] + land[at + 1] for at in range(0, len(land), 2)]


def shared_out(land, way):
    """land, when camp 0 has in each district as many votes as way says, camp 1 the others."""
    shared = []
    for votes, own in zip(cast(land), way):
        shared.extend([own, votes - own])
    return shared


def least(land, choices):
    """The answer by a plain search: every way that takes one of the choices in each district."""
    found = [[sum(way)] + list(way) for way in itertools.product(*choices) if leads(0, shared_out(land, way))]
    return min(found) if found else [-33]


def every_number(land):
    return [range(votes + 1) for votes in cast(land)]


def first_of_each_outcome(land):
    """Of each district the smallest number that loses, that ties, and that wins it, counted up one by one."""
    choices = []
    for votes in cast(land):
        smallest = {}
        for own in range(votes + 1):
            smallest.setdefault((own > votes - own, own == votes - own), own)
        choices.append(sorted(smallest.values()))
    return choices


class Ordinary(unittest.TestCase):
    def test_one_district(self):
        self.assertEqual(fewest([3, 8]), [6, 6])
        self.assertEqual(fewest([8, 3]), [6, 6])
        self.assertEqual(fewest([7, 3]), [6, 6])

    def test_the_districts_where_it_takes_fewest(self):
        self.assertEqual(fewest([10, 4, 3, 8, 5, 5]), [12, 0, 6, 6])
        self.assertEqual(fewest([4, 1, 90, 9, 1, 1]), [5, 3, 0, 2])

    def test_it_leads_already_with_more(self):
        self.assertEqual(fewest([9, 0, 9, 0, 9, 0]), [10, 0, 5, 5])

    def test_who_has_the_votes_now_does_not_count(self):
        for first in range(10):
            self.assertEqual(fewest([first, 9 - first, 2, 2]), [7, 5, 2])


class NamedEdges(unittest.TestCase):
    def test_no_districts(self):
        self.assertEqual(fewest([]), [-33])

    def test_nobody_votes(self):
        for districts in range(1, 8):
            self.assertEqual(fewest([0, 0] * districts), [-33])

    def test_one_vote_in_all(self):
        self.assertEqual(fewest([0, 1]), [1, 1])
        self.assertEqual(fewest([1, 0]), [1, 1])
        self.assertEqual(fewest([0, 0, 0, 1, 0, 0]), [1, 0, 1, 0])

    def test_as_many_votes_for_both(self):
        self.assertEqual(fewest([5, 5]), [6, 6])
        self.assertEqual(fewest([5, 5, 3, 3]), [9, 5, 4])

    def test_one_vote_more(self):
        self.assertEqual(fewest([6, 5]), [6, 6])
        self.assertEqual(fewest([5, 6]), [6, 6])
        self.assertEqual(fewest([6, 6]), [7, 7])

    def test_a_tie_that_is_enough(self):
        self.assertEqual(fewest([0, 1, 2, 2]), [3, 1, 2])
        self.assertEqual(fewest([2, 2, 0, 1]), [3, 2, 1])

    def test_a_tie_that_is_not_enough(self):
        self.assertEqual(fewest([1, 3]), [3, 3])
        self.assertEqual(fewest([1, 3, 0, 0]), [3, 3, 0])

    def test_no_tie_where_an_odd_number_voted(self):
        self.assertEqual(fewest([0, 1, 2, 1]), [3, 1, 2])
        self.assertEqual(fewest([3, 2, 3, 4]), [7, 3, 4])

    def test_a_district_without_votes(self):
        self.assertEqual(fewest([0, 0, 3, 4]), [4, 0, 4])
        self.assertEqual(fewest([2, 0, 0, 0, 0, 2]), [3, 1, 0, 2])

    def test_a_lead_without_most_districts(self):
        self.assertEqual(fewest([0, 0, 0, 0, 5, 0]), [3, 0, 0, 3])
        self.assertEqual(fewest([1, 1, 0, 0, 0, 0, 0, 3]), [3, 1, 0, 0, 2])

    def test_all_that_voted(self):
        self.assertEqual(fewest([0, 2]), [2, 2])
        self.assertEqual(fewest([1, 1]), [2, 2])
        self.assertEqual(fewest([1, 0, 0, 1]), [2, 1, 1])

    def test_thousand_votes(self):
        self.assertEqual(fewest([0, 1000]), [501, 501])
        self.assertEqual(fewest([1000, 0]), [501, 501])
        self.assertEqual(fewest([1000, 999]), [1000, 1000])

    def test_more_than_thousand_votes_of_one_camp(self):
        self.assertEqual(fewest([1000, 1000]), [1001, 1001])
        self.assertEqual(fewest([1000, 1000, 1000, 1000]), [2001, 1000, 1001])
        self.assertEqual(fewest([1000, 1000, 0, 1, 1, 0]), [2, 0, 1, 1])

    def test_seven_districts(self):
        self.assertEqual(fewest([0, 1000] * 7), [2004, 0, 0, 0, 501, 501, 501, 501])
        self.assertEqual(fewest([1000, 1000] * 7), [4004, 0, 0, 0, 1001, 1001, 1001, 1001])
        self.assertEqual(fewest([1, 0] * 7), [4, 0, 0, 0, 1, 1, 1, 1])


class OfAsFew(unittest.TestCase):
    def test_the_earlier_district_has_fewer(self):
        self.assertEqual(fewest([0, 1, 0, 1, 1, 0]), [2, 0, 1, 1])
        self.assertEqual(fewest([1, 1, 1, 1, 1, 1]), [4, 0, 2, 2])

    def test_where_two_ways_first_differ_counts(self):
        land = [0, 1, 1, 1, 0, 2]
        for way in ([1, 1, 1], [1, 2, 0], [1, 0, 2]):
            self.assertTrue(leads(0, shared_out(land, way)))
        self.assertEqual(fewest(land), [3, 1, 0, 2])

    def test_a_tie_first_and_a_win_behind(self):
        self.assertEqual(fewest([2, 2, 2, 2]), [5, 2, 3])


class AgainstAPlainSearch(unittest.TestCase):
    def hold_against_search(self, districts, most):
        for land in itertools.product(range(most + 1), repeat=2 * districts):
            land = list(land)
            self.assertEqual(fewest(land), least(land, every_number(land)), land)

    def test_one_district(self):
        self.hold_against_search(1, 12)

    def test_two_districts(self):
        self.hold_against_search(2, 4)

    def test_three_districts(self):
        self.hold_against_search(3, 2)

    def test_four_districts_with_as_many_as_these(self):
        for counts in itertools.product(range(6), repeat=4):
            land = [votes for count in counts for votes in (count // 2, count - count // 2)]
            self.assertEqual(fewest(land), least(land, first_of_each_outcome(land)), land)

    def test_four_districts_through_every_number(self):
        draw = random.Random(5)
        for count in range(60):
            land = [draw.randint(0, 3) for place in range(8)]
            self.assertEqual(fewest(land), least(land, every_number(land)), land)

    def test_seven_districts_with_one_vote_or_two(self):
        draw = random.Random(7)
        for count in range(40):
            land = [draw.randint(0, 1) for place in range(14)]
            self.assertEqual(fewest(land), least(land, every_number(land)), land)

    def test_great_lands_against_every_outcome_of_each_district(self):
        draw = random.Random(1000)
        for count in range(60):
            districts = draw.randint(4, 7)
            most = draw.choice([4, 20, 1000])
            land = [draw.randint(0, most) for place in range(2 * districts)]
            self.assertEqual(fewest(land), least(land, first_of_each_outcome(land)), land)


class WhatHolds(unittest.TestCase):
    def test_with_what_is_answered_camp_0_leads(self):
        for land in drawn_lands():
            answer = fewest(land)
            if answer == [-33]:
                continue
            self.assertEqual(len(answer), 1 + len(land) // 2)
            self.assertEqual(answer[0], sum(answer[1:]))
            shared = shared_out(land, answer[1:])
            self.assertGreaterEqual(min(shared), 0)
            self.assertTrue(leads(0, shared), land)

    def test_it_can_be_just_if_anybody_votes(self):
        for land in drawn_lands():
            self.assertEqual(fewest(land) == [-33], sum(land) == 0, land)

    def test_whoever_leads_now_has_no_fewer(self):
        for land in drawn_lands():
            for k in (0, 1):
                if leads(k, land):
                    self.assertGreaterEqual(sum(land[k::2]), fewest(land)[0], (k, land))

    def test_a_land_led_with_as_few_as_can_be(self):
        for land in drawn_lands():
            answer = fewest(land)
            shared = shared_out(land, answer[1:])
            # Camp 1 may have more than 1,000 there, and then it is no land that could be handed in.
            if answer != [-33] and max(shared) <= 1000:
                self.assertEqual(fewest(shared), answer, land)
                self.assertEqual(turn(0, shared)[0], 0, land)

    def test_as_many_as_must_go_over_where_camp_0_has_none(self):
        for land in drawn_lands():
            bare = shared_out(land, [0] * (len(land) // 2))
            if len(land) == 0 or max(bare) <= 1000:
                self.assertEqual(fewest(land), turn(0, bare), land)

    def test_camps_called_otherwise(self):
        for land in drawn_lands():
            self.assertEqual(fewest(land), fewest(swapped(land)), land)


class Refusals(unittest.TestCase):
    def test_an_odd_number_of_numbers(self):
        for length in range(1, 18, 2):
            self.assertEqual(fewest([1] * length), [-22], length)
            self.assertEqual(fewest([0] * length), [-22], length)

    def test_more_than_seven_districts(self):
        for length in (16, 18):
            self.assertEqual(fewest([0] * length), [-22], length)
            self.assertEqual(fewest([2, 1] * (length // 2)), [-22], length)

    def test_a_number_above_thousand_in_any_place(self):
        for length in (2, 6, 14):
            for place in range(length):
                for votes in (1001, GREATEST):
                    for others in (0, 3):
                        land = [others] * length
                        land[place] = votes
                        self.assertEqual(fewest(land), [-22], land)

    def test_the_greatest_numbers(self):
        for length in range(1, 19):
            self.assertEqual(fewest([GREATEST] * length), [-22], length)


if __name__ == "__main__":
    unittest.main()
