"""What the document promises over the whole program: "What holds", a. to e., told by the calls alone."""

import itertools
import unittest

from camps.majority import fewest, idle, joined, moved, swing, turn, won
from plain import GREATEST, drawn_lands, swapped

NAMED_LANDS = {
    "no districts": [],
    "nobody votes": [0, 0, 0, 0, 0, 0],
    "as many votes for both": [5, 5, 3, 3],
    "one vote more": [6, 5, 5, 6, 6, 5],
    "a tie that's enough": [3, 1, 1, 3],
    "a district without votes": [0, 0, 3, 4, 0, 2],
    "a lead without most districts": [2, 1, 0, 0, 4, 4, 0, 0],
    "all gone over": [0, 1, 0, 2],
    "a swing greater than a district": [0, 0, 0, 2, 1, 9, 0, 9],
    "a thousand votes": [1000, 0, 0, 1000, 1000, 1000],
    "seven districts": [0, 1000] * 7,
    "an ordinary land": [10, 4, 3, 8, 5, 5],
}


def lands():
    return list(NAMED_LANDS.values()) + drawn_lands()[::3]


def small_lands():
    named = [land for land in NAMED_LANDS.values() if len(land) <= 6 and max(land, default=0) <= 10]
    return named + [list(land) for land in itertools.product(range(3), repeat=4)]


def others(k, land):
    return land[1 - k::2]


def ahead(k, counts):
    return counts[k] > counts[1 - k]


def ways_below(k, land, many):
    """Every way in which fewer than so many go over to camp k."""
    ways = itertools.product(*[range(min(other, many) + 1) for other in others(k, land)])
    return [list(way) for way in ways if sum(way) < many]


def evenly(k, land, many):
    return [min(many, other) for other in others(k, land)]


class HoldsA(unittest.TestCase):
    def test_so_many_make_it_lead(self):
        for land in lands():
            for k in (0, 1):
                answer = turn(k, land)
                if answer != [-33]:
                    self.assertEqual(sum(answer[1:]), answer[0], (k, land))
                    self.assertTrue(ahead(k, moved(k, land, answer[1:])), (k, land))

    def test_no_fewer_do(self):
        for land in small_lands():
            for k in (0, 1):
                answer = turn(k, land)
                many = sum(others(k, land)) + 1 if answer == [-33] else answer[0]
                for way in ways_below(k, land, many):
                    self.assertFalse(ahead(k, moved(k, land, way)), (k, land, way))

    def test_it_can_be_just_if_it_leads_or_the_other_camp_has_a_vote(self):
        for land in lands():
            for k in (0, 1):
                can_be = ahead(k, won(land)) or sum(others(k, land)) > 0
                self.assertEqual(turn(k, land) != [-33], can_be, (k, land))


class HoldsB(unittest.TestCase):
    def test_so_many_everywhere_fewer_and_more(self):
        for land in lands():
            for k in (0, 1):
                answer = swing(k, land)
                enough = 1001 if answer == [-33] else answer[0]
                near = list(range(max(enough - 2, 0), enough + 3))
                for many in near + list(range(0, 1001, 125)):
                    counts = moved(k, land, evenly(k, land, many))
                    self.assertEqual(ahead(k, counts), many >= enough and answer != [-33], (k, land, many))

    def test_every_number_at_the_lands_that_are_named(self):
        for name, land in NAMED_LANDS.items():
            for k in (0, 1):
                answer = swing(k, land)
                for many in range(1001):
                    counts = moved(k, land, evenly(k, land, many))
                    self.assertEqual(ahead(k, counts), answer != [-33] and many >= answer[0], (name, k, many))


class HoldsC(unittest.TestCase):
    def all_for_camp_1(self, land):
        return [votes for at in range(0, len(land), 2) for votes in (0, land[at] + land[at + 1])]

    def test_with_no_fewer_votes_could_one_lead(self):
        for land in small_lands():
            answer = fewest(land)
            bare = self.all_for_camp_1(land)
            many = sum(land) + 1 if answer == [-33] else answer[0]
            for way in ways_below(0, bare, many):
                self.assertFalse(ahead(0, moved(0, bare, way)), (land, way))

    def test_with_so_many_it_leads(self):
        for land in lands():
            answer = fewest(land)
            bare = self.all_for_camp_1(land)
            if answer != [-33] and max(bare) <= 1000:
                self.assertEqual(sum(answer[1:]), answer[0], land)
                self.assertTrue(ahead(0, moved(0, bare, answer[1:])), land)

    def test_whoever_leads_now_has_no_fewer(self):
        for land in lands():
            for k in (0, 1):
                if ahead(k, won(land)):
                    self.assertNotEqual(fewest(land), [-33], land)
                    self.assertGreaterEqual(sum(land[k::2]), fewest(land)[0], (k, land))


class HoldsD(unittest.TestCase):
    def test_without_idle_votes_camp_0_wins_as_many_districts(self):
        for land in lands():
            left = list(land)
            for at in range(0, len(land), 2):
                left[at] -= idle(land[at:at + 2])[0]
            self.assertEqual(sum(land) - sum(left), idle(land)[0], land)
            self.assertEqual(won(left)[0], won(land)[0], land)

    def test_with_one_vote_fewer_still_it_would_not(self):
        for land in lands():
            for at in range(0, len(land), 2):
                needed = land[at] - idle(land[at:at + 2])[0]
                if needed > 0:
                    self.assertEqual(won([needed, land[at + 1]]), [1, 0, 0], land)
                    self.assertEqual(won([needed - 1, land[at + 1]])[0], 0, land)


class HoldsE(unittest.TestCase):
    def test_what_tells_of_one_camp_tells_likewise_of_the_other(self):
        for land in lands():
            for k in (0, 1):
                self.assertEqual(turn(k, land), turn(1 - k, swapped(land)), (k, land))
                self.assertEqual(swing(k, land), swing(1 - k, swapped(land)), (k, land))

    def test_fewest_does_not_ask_who_has_the_votes(self):
        for land in lands():
            self.assertEqual(fewest(land), fewest(swapped(land)), land)

    def test_what_tells_of_both_tells_them_the_other_way_round(self):
        for land in lands():
            pairs = [(won(land), won(swapped(land))), (idle(land), idle(swapped(land)))]
            districts = len(land) // 2
            for i, j in itertools.combinations(range(districts), 2):
                pairs.append((joined(i, j, land), joined(i, j, swapped(land))))
            for k in (0, 1):
                for many in (0, 1, 500):
                    way = evenly(k, land, many)
                    pairs.append((moved(k, land, way), moved(1 - k, swapped(land), way)))
            for told, otherwise in pairs:
                self.assertEqual(otherwise, [told[1], told[0]] + told[2:], land)


class EachCallByItself(unittest.TestCase):
    def calls(self):
        wrong = [[1, 2, 3], [1001, 0], [1, 0] * 9, [GREATEST] * 18]
        calls = []
        for land in list(NAMED_LANDS.values()) + wrong:
            for name in (won, fewest, idle):
                calls.append((name, land))
            for k in (0, 1, 2, GREATEST):
                calls.append((turn, k, land))
                calls.append((swing, k, land))
                for voters in ([], [0] * (len(land) // 2), evenly(k % 2, land, 1), [GREATEST] * 10):
                    calls.append((moved, k, land, voters))
            for i, j in ((0, 1), (1, 0), (0, 0), (2, 0), (GREATEST, GREATEST)):
                calls.append((joined, i, j, land))
        return calls

    def answers(self, calls):
        return [call[0](*call[1:]) for call in calls]

    def test_every_call_may_be_made_twice(self):
        for call in self.calls():
            once = call[0](*call[1:])
            told = list(once)
            # An answer is the caller's own: what happens to it must not be seen in the next.
            once.append(99)
            once[0] = 77
            self.assertEqual(call[0](*call[1:]), told, call)

    def test_in_any_order(self):
        calls = self.calls()
        once = self.answers(calls)
        self.assertEqual(self.answers(calls[::-1])[::-1], once)
        for step in (7, 11):
            order = [at for start in range(step) for at in range(start, len(calls), step)]
            again = self.answers([calls[at] for at in order])
            self.assertEqual(again, [once[at] for at in order])


class RefusalsOfAll(unittest.TestCase):
    def test_land_not_as_told_is_refused_by_every_call(self):
        for land in ([1], [0] * 17, [0] * 16, [0] * 18, [1001, 0], [0, 1001], [GREATEST] * 2, [GREATEST] * 18):
            voters = [0] * (len(land) // 2)
            answers = [won(land), fewest(land), idle(land), joined(0, 1, land), joined(GREATEST, GREATEST, land)]
            for k in (0, 1, 2, GREATEST):
                answers.extend([turn(k, land), swing(k, land), moved(k, land, voters)])
            for answer in answers:
                self.assertEqual(answer, [-22], land)

    def test_k_above_1_goes_ahead_of_what_cannot_be(self):
        for land in ([], [0, 0]):
            for k in (2, GREATEST):
                self.assertEqual(turn(k, land), [-22])
                self.assertEqual(swing(k, land), [-22])
            for k in (0, 1):
                self.assertEqual(turn(k, land), [-33])
                self.assertEqual(swing(k, land), [-33])


if __name__ == "__main__":
    unittest.main()
