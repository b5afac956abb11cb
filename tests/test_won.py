import itertools
import unittest

from camps.majority import won
from plain import GREATEST


class Counts(unittest.TestCase):
    def test_ordinary_land(self):
        self.assertEqual(won([10, 4, 3, 8, 7, 2, 5, 5]), [2, 1, 1])

    def test_order_of_the_three_numbers(self):
        self.assertEqual(won([1, 0]), [1, 0, 0])
        self.assertEqual(won([0, 1]), [0, 1, 0])
        self.assertEqual(won([1, 1]), [0, 0, 1])

    def test_no_districts(self):
        self.assertEqual(won([]), [0, 0, 0])

    def test_nobody_votes(self):
        self.assertEqual(won([0, 0, 0, 0, 0, 0]), [0, 0, 3])

    def test_as_many_votes_for_both(self):
        self.assertEqual(won([5, 5, 1000, 1000]), [0, 0, 2])

    def test_one_vote_more(self):
        self.assertEqual(won([6, 5, 5, 6, 1000, 999, 999, 1000]), [2, 2, 0])

    def test_a_district_without_votes(self):
        self.assertEqual(won([3, 1, 0, 0, 1, 2]), [1, 1, 1])

    def test_a_lead_without_most_districts(self):
        self.assertEqual(won([2, 1, 4, 4, 0, 0, 3, 3]), [1, 0, 3])

    def test_more_votes_in_all_do_not_count(self):
        self.assertEqual(won([1000, 0, 1, 2, 1, 2]), [1, 2, 0])

    def test_thousand_votes(self):
        self.assertEqual(won([1000, 0, 0, 1000, 1000, 1000]), [1, 1, 1])

    def test_seven_districts(self):
        self.assertEqual(won([1, 0] * 7), [7, 0, 0])
        self.assertEqual(won([0, 1000] * 7), [0, 7, 0])
        self.assertEqual(won([1000, 1000] * 7), [0, 0, 7])
        self.assertEqual(won([1, 0, 0, 1, 2, 2, 1, 0, 0, 1, 1, 0, 1, 0]), [4, 2, 1])

    def test_small_lands_against_a_plain_count(self):
        for land in itertools.product(range(4), repeat=4):
            pairs = [land[:2], land[2:]]
            self.assertEqual(won(list(land)), [
                len([1 for first, second in pairs if first > second]),
                len([1 for first, second in pairs if first < second]),
                len([1 for first, second in pairs if first == second]),
            ], land)

    def test_camps_called_otherwise(self):
        for a, b, c, d in itertools.product(range(4), repeat=4):
            first, second, neither = won([a, b, c, d])
            self.assertEqual(won([b, a, d, c]), [second, first, neither])


class Refusals(unittest.TestCase):
    def test_an_odd_number_of_numbers(self):
        for length in range(1, 18, 2):
            self.assertEqual(won([1] * length), [-22], length)

    def test_more_than_seven_districts(self):
        for length in (16, 18):
            self.assertEqual(won([0] * length), [-22], length)
            self.assertEqual(won([2, 1] * (length // 2)), [-22], length)

    def test_a_number_above_thousand_in_any_place(self):
        for length in (2, 6, 14):
            for place in range(length):
                for votes in (1001, GREATEST):
                    land = [3] * length
                    land[place] = votes
                    self.assertEqual(won(land), [-22], land)

    def test_the_greatest_numbers(self):
        for length in range(1, 19):
            self.assertEqual(won([GREATEST] * length), [-22], length)


if __name__ == "__main__":
    unittest.main()
