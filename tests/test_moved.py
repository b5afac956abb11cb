import itertools
import random
import unittest

from camps.majority import moved, swing, turn, won
from plain import GREATEST, after, drawn_lands, swapped, wins


def counted(land):
    counts = wins(land)
    return counts + [len(land) // 2 - sum(counts)]


def others(k, land):
    """How many votes the other camp has in each district."""
    return land[1 - k::2]


def drawn_ways():
    """Drawn lands with a camp and as many voters as can go over to it."""
    draw = random.Random(23)
    return [(k, land, [draw.randint(0, other) for other in others(k, land)])
            for land in drawn_lands() for k in (0, 1)]


class Ordinary(unittest.TestCase):
    def test_voters_go_over_to_camp_0(self):
        self.assertEqual(moved(0, [10, 4, 3, 8, 5, 5], [0, 3, 0]), [2, 0, 1])
        self.assertEqual(moved(0, [10, 4, 3, 8, 5, 5], [0, 0, 1]), [2, 1, 0])

    def test_voters_go_over_to_camp_1(self):
        self.assertEqual(moved(1, [10, 4, 3, 8, 5, 5], [4, 0, 0]), [0, 2, 1])
        self.assertEqual(moved(1, [10, 4, 3, 8, 5, 5], [3, 1, 1]), [0, 2, 1])

    def test_camp_0_is_told_first_whichever_they_go_over_to(self):
        self.assertEqual(moved(0, [0, 3], [2]), [1, 0, 0])
        self.assertEqual(moved(1, [3, 0], [2]), [0, 1, 0])

    def test_each_number_counts_in_its_own_district(self):
        land = [1, 2, 1, 4, 1, 6]
        self.assertEqual(moved(0, land, [1, 2, 3]), [3, 0, 0])
        self.assertEqual(moved(0, land, [1, 1, 1]), [1, 2, 0])
        self.assertEqual(moved(0, land, [2, 1, 3]), [2, 1, 0])

    def test_against_won_of_the_land_written_out(self):
        for k, land, voters, afterwards in (
                (0, [10, 4, 3, 8, 5, 5], [1, 2, 3], [11, 3, 5, 6, 8, 2]),
                (1, [10, 4, 3, 8, 5, 5], [6, 3, 1], [4, 10, 0, 11, 4, 6]),
                (0, [2, 3, 2, 4], [1, 1], [3, 2, 3, 3]),
                (1, [3, 2, 4, 2], [1, 1], [2, 3, 3, 3]),
                (0, [0, 1000, 0, 999], [500, 500], [500, 500, 500, 499])):
            self.assertEqual(moved(k, land, voters), won(afterwards), (k, land, voters))


class NamedEdges(unittest.TestCase):
    def test_no_districts(self):
        self.assertEqual(moved(0, [], []), [0, 0, 0])
        self.assertEqual(moved(1, [], []), [0, 0, 0])

    def test_nobody_votes(self):
        for districts in range(1, 8):
            for k in (0, 1):
                self.assertEqual(moved(k, [0, 0] * districts, [0] * districts), [0, 0, districts])

    def test_nobody_goes_over(self):
        for land in drawn_lands():
            for k in (0, 1):
                self.assertEqual(moved(k, land, [0] * (len(land) // 2)), won(land), (k, land))

    def test_as_many_votes_for_both(self):
        self.assertEqual(moved(0, [5, 5], [0]), [0, 0, 1])
        self.assertEqual(moved(0, [5, 5], [1]), [1, 0, 0])
        self.assertEqual(moved(1, [5, 5], [1]), [0, 1, 0])

    def test_a_tie_afterwards(self):
        self.assertEqual(moved(0, [4, 6], [1]), [0, 0, 1])
        self.assertEqual(moved(1, [6, 4], [1]), [0, 0, 1])

    def test_one_vote_more(self):
        self.assertEqual(moved(0, [5, 6], [1]), [1, 0, 0])
        self.assertEqual(moved(1, [6, 5], [1]), [0, 1, 0])
        self.assertEqual(moved(0, [4, 7], [1]), [0, 1, 0])

    def test_a_tie_that_is_enough(self):
        self.assertEqual(moved(0, [3, 1, 1, 3], [0, 1]), [1, 0, 1])
        self.assertEqual(moved(1, [3, 1, 1, 3], [1, 0]), [0, 1, 1])

    def test_a_district_without_votes(self):
        self.assertEqual(moved(0, [0, 0, 1, 2], [0, 1]), [1, 0, 1])
        self.assertEqual(moved(1, [2, 1, 0, 0], [1, 0]), [0, 1, 1])

    def test_a_lead_without_most_districts(self):
        self.assertEqual(moved(0, [4, 4, 0, 0, 3, 3], [1, 0, 0]), [1, 0, 2])
        self.assertEqual(moved(1, [4, 4, 0, 0, 3, 3], [0, 0, 1]), [0, 1, 2])

    def test_all_gone_over(self):
        for land in drawn_lands():
            voted = sum([land[at] + land[at + 1] > 0 for at in range(0, len(land), 2)])
            empty = len(land) // 2 - voted
            self.assertEqual(moved(0, land, others(0, land)), [voted, 0, empty], land)
            self.assertEqual(moved(1, land, others(1, land)), [0, voted, empty], land)

    def test_more_than_thousand_votes_afterwards(self):
        self.assertEqual(moved(0, [1000, 1000], [1]), [1, 0, 0])
        self.assertEqual(moved(0, [1000, 1000], [1000]), [1, 0, 0])
        self.assertEqual(moved(1, [1000, 1000, 1000, 1000], [1, 1000]), [0, 2, 0])
        self.assertEqual(moved(1, [999, 1000, 5, 0], [999, 0]), [1, 1, 0])

    def test_thousand_votes(self):
        self.assertEqual(moved(0, [0, 1000], [499]), [0, 1, 0])
        self.assertEqual(moved(0, [0, 1000], [500]), [0, 0, 1])
        self.assertEqual(moved(0, [0, 1000], [501]), [1, 0, 0])
        self.assertEqual(moved(1, [1000, 0], [1000]), [0, 1, 0])

    def test_seven_districts(self):
        self.assertEqual(moved(0, [0, 1000] * 7, [501, 500, 499, 0, 1000, 501, 500]), [3, 2, 2])
        self.assertEqual(moved(1, [1000, 0] * 7, [501, 500, 499, 0, 1000, 501, 500]), [2, 3, 2])


class AgainstWritingItOut(unittest.TestCase):
    def hold_every_way(self, districts, most):
        for land in itertools.product(range(most + 1), repeat=2 * districts):
            land = list(land)
            for k in (0, 1):
                for voters in itertools.product(*[range(other + 1) for other in others(k, land)]):
                    voters = list(voters)
                    self.assertEqual(moved(k, land, voters), counted(after(k, land, voters)), (k, land, voters))

    def test_one_district(self):
        self.hold_every_way(1, 12)

    def test_two_districts(self):
        self.hold_every_way(2, 4)

    def test_drawn_lands(self):
        for k, land, voters in drawn_ways():
            self.assertEqual(moved(k, land, voters), counted(after(k, land, voters)), (k, land, voters))

    def test_as_won_where_the_new_land_can_be_handed_in(self):
        for k, land, voters in drawn_ways():
            afterwards = after(k, land, voters)
            if max(afterwards, default=0) <= 1000:
                self.assertEqual(moved(k, land, voters), won(afterwards), (k, land, voters))


class WhatHolds(unittest.TestCase):
    def test_what_turn_answers_makes_it_lead(self):
        for land in drawn_lands():
            for k in (0, 1):
                answer = turn(k, land)
                if answer != [-33]:
                    counts = moved(k, land, answer[1:])
                    self.assertGreater(counts[k], counts[1 - k], (k, land))

    def test_one_fewer_than_turn_answers_does_not(self):
        for land in drawn_lands():
            for k in (0, 1):
                way = turn(k, land)[1:]
                for district in range(len(way)):
                    if way[district] > 0:
                        fewer = way[:district] + [way[district] - 1] + way[district + 1:]
                        counts = moved(k, land, fewer)
                        self.assertLessEqual(counts[k], counts[1 - k], (k, land, fewer))

    def test_as_swing_tells(self):
        for land in drawn_lands():
            for k in (0, 1):
                answer = swing(k, land)
                if answer != [-33]:
                    counts = moved(k, land, [min(answer[0], other) for other in others(k, land)])
                    self.assertEqual([counts[k], counts[1 - k]], answer[1:], (k, land))

    def test_every_district_is_told(self):
        for k, land, voters in drawn_ways():
            self.assertEqual(sum(moved(k, land, voters)), len(land) // 2, (k, land, voters))

    def test_camps_called_otherwise(self):
        for k, land, voters in drawn_ways():
            first, second, neither = moved(k, land, voters)
            self.assertEqual(moved(1 - k, swapped(land), voters), [second, first, neither], (k, land, voters))


class Refusals(unittest.TestCase):
    def test_voters_too_short_too_long_or_empty(self):
        for districts in range(1, 8):
            for k in (0, 1):
                for length in range(11):
                    answer = moved(k, [2, 2] * districts, [0] * length)
                    expected = [0, 0, districts] if length == districts else [-22]
                    self.assertEqual(answer, expected, (k, districts, length))

    def test_voters_where_there_are_no_districts(self):
        for length in range(1, 11):
            for k in (0, 1):
                self.assertEqual(moved(k, [], [0] * length), [-22], length)
                self.assertEqual(moved(k, [], [GREATEST] * length), [-22], length)

    def test_as_many_voters_as_land_has_numbers(self):
        self.assertEqual(moved(0, [2, 2, 2, 2], [0, 0, 0, 0]), [-22])

    def test_one_more_than_the_other_camp_has(self):
        for k in (0, 1):
            for land in ([3, 3], [3, 5, 4, 6], [5, 3, 6, 4], [0, 0, 1, 1, 0, 0], [9, 8, 7, 6, 5, 4, 3] * 2):
                for district, other in enumerate(others(k, land)):
                    voters = [0] * (len(land) // 2)
                    voters[district] = other
                    self.assertNotEqual(moved(k, land, voters), [-22], (k, land, voters))
                    voters[district] = other + 1
                    self.assertEqual(moved(k, land, voters), [-22], (k, land, voters))

    def test_one_more_in_the_first_and_in_the_last_district(self):
        self.assertEqual(moved(0, [9, 2, 9, 3, 9, 4], [3, 0, 0]), [-22])
        self.assertEqual(moved(0, [9, 2, 9, 3, 9, 4], [2, 3, 5]), [-22])
        self.assertEqual(moved(1, [2, 9, 3, 9, 4, 9], [3, 0, 0]), [-22])
        self.assertEqual(moved(1, [2, 9, 3, 9, 4, 9], [2, 3, 5]), [-22])

    def test_the_camp_itself_having_so_many_does_not_help(self):
        self.assertEqual(moved(0, [1000, 0], [1]), [-22])
        self.assertEqual(moved(1, [0, 1000], [1]), [-22])

    def test_k_above_one(self):
        for k in (2, 3, 1000, GREATEST):
            for land in ([], [0, 0], [3, 1], [1, 3, 2, 2], [1, 3] * 7):
                self.assertEqual(moved(k, land, [0] * (len(land) // 2)), [-22], (k, land))
                self.assertEqual(moved(k, land, [GREATEST] * 10), [-22], (k, land))

    def test_an_odd_number_of_numbers(self):
        for length in range(1, 18, 2):
            for k in (0, 1):
                for districts in (length // 2, length // 2 + 1):
                    self.assertEqual(moved(k, [1] * length, [0] * districts), [-22], (length, districts))

    def test_more_than_seven_districts(self):
        for districts in (8, 9):
            for k in (0, 1):
                self.assertEqual(moved(k, [0, 0] * districts, [0] * districts), [-22], districts)
                self.assertEqual(moved(k, [2, 1] * districts, [1] * districts), [-22], districts)

    def test_a_number_above_thousand_in_any_place(self):
        for length in (2, 6, 14):
            for place in range(length):
                for votes in (1001, GREATEST):
                    land = [3] * length
                    land[place] = votes
                    for k in (0, 1):
                        self.assertEqual(moved(k, land, [0] * (length // 2)), [-22], (k, land))

    def test_the_greatest_numbers(self):
        for k in (0, 1, GREATEST):
            for length in range(1, 19):
                for districts in range(11):
                    self.assertEqual(moved(k, [GREATEST] * length, [GREATEST] * districts), [-22])
        for k in (0, 1):
            for districts in range(1, 8):
                self.assertEqual(moved(k, [1000, 1000] * districts, [GREATEST] * districts), [-22])
                self.assertEqual(moved(k, [1000, 1000] * districts, [1001] * districts), [-22])


if __name__ == "__main__":
    unittest.main()
