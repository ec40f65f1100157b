"""Tests of foursums.fours.need against the document's words."""

import itertools
import unittest

from foursums.fours import holds, need
from words import (
    ALL_N, BOTH, EITHER, LARGEST, NO_ANSWER, REFUSED, LeavesNothing, members, only, pairs_not_so, row, spread,
)

# 1000 times 1000 is the most that is ever needed: where this isn't enough nothing is.
PLENTY = 1000000


def is_enough(n, a, b, c, d):
    return not pairs_not_so(n, a, b, c, d)


class Answers(unittest.TestCase):
    def test_n_of_1_by_hand(self):
        # Of the empty set: 1*3/3, 1*4/8 and 2*3/8, so 1; of the other one: 2*4/8, so 1.
        self.assertEqual(need(1, [1, 2], [3, 4], [3, 8]), [2, 1, 1])
        # Of the empty set: 2*3/1, 2*7/4 and 5*3/4, so 6; of the other one: 5*7/4, so 9.
        self.assertEqual(need(1, [2, 5], [3, 7], [1, 4]), [2, 6, 9])
        # Of the empty set: 2*3/6, 2*7/2 and 5*3/2, so 8; of the other one: 5*7/2, so 18.
        self.assertEqual(need(1, [2, 5], [3, 7], [6, 2]), [2, 8, 18])

    def test_n_of_2_by_hand(self):
        # Of 0: 1*4/9, 1*3/8, 1*2/7, 1*1/6, 2*4/8, 2*2/6, 3*4/7, 3*3/6 and 4*4/6, so 3.
        # Of 1: 2*3/8, 2*1/6 and 4*3/6, so 2. Of 2: 3*2/7, 3*1/6 and 4*2/6, so 2. Of 3: 4*1/6, so 1.
        self.assertEqual(need(2, [1, 2, 3, 4], [4, 3, 2, 1], [9, 8, 7, 6]), [4, 3, 2, 2, 1])
        # Of 0: 5*1/1 and 5*2/2, so 5; of the others nothing is needed.
        self.assertEqual(need(2, [5, 0, 0, 0], [1, 2, 0, 0], [1, 2, 0, 0]), [4, 5, 0, 0, 0])

    def test_n_of_3_by_hand(self):
        # Of 6 and 3: 7*5 is 35, and what either has is all, what both have thing 1 alone.
        self.assertEqual(need(3, only(3, 6, 7), only(3, 3, 5), only(3, 7, 10)), [8, 0, 0, 4, 0, 0, 0, 0, 0])
        self.assertEqual(need(3, only(3, 6, 7), only(3, 3, 5), only(3, 7, 5)), [8, 0, 0, 7, 0, 0, 0, 0, 0])
        self.assertEqual(need(3, only(3, 6, 7), only(3, 3, 5), only(3, 7, 1000)), [8, 0, 0, 1, 0, 0, 0, 0, 0])

    def test_above_1000(self):
        self.assertEqual(need(1, [1000, 1000], [1000, 1000], [1, 1]), [2, 1000000, 1000000])
        self.assertEqual(need(1, [1000, 1000], [1000, 1000], [1000, 1]), [2, 1000000, 1000000])
        self.assertEqual(need(1, [1000, 1000], [1000, 1000], [999, 1000]), [2, 1002, 1000])
        self.assertEqual(need(1, [1000, 0], [1000, 0], [7, 0]), [2, 142858, 0])
        self.assertEqual(need(1, [1000, 0], [1000, 0], [1000, 0]), [2, 1000, 0])
        self.assertEqual(need(1, [91, 0], [11, 0], [1, 0]), [2, 1001, 0])
        for n in ALL_N:
            self.assertEqual(need(n, row(n, 1000), row(n, 1000), row(n, 1)), [2 ** n] + row(n, 1000000))

    def test_divisions_with_and_without_a_rest(self):
        for c in range(1, 30):
            for product in (c - 1, c, c + 1, 2 * c - 1, 2 * c, 2 * c + 1):
                answer = need(1, [product, 0], [1, 0], [c, 0])
                least = answer[1]
                self.assertGreaterEqual(c * least, product)
                self.assertTrue(least == 0 or c * (least - 1) < product)
                self.assertEqual(answer, [2, least, 0])
        self.assertEqual(need(1, [11, 0], [1, 0], [4, 0]), [2, 3, 0])
        self.assertEqual(need(1, [12, 0], [1, 0], [4, 0]), [2, 3, 0])
        self.assertEqual(need(1, [13, 0], [1, 0], [4, 0]), [2, 4, 0])
        self.assertEqual(need(1, [1, 0], [1, 0], [1000, 0]), [2, 1, 0])
        self.assertEqual(need(1, [999, 0], [1, 0], [1000, 0]), [2, 1, 0])

    def test_the_rest_is_of_the_product(self):
        # 5 times 5 in threes is 9, though 5 in threes is 2 and twice 5 is 10.
        self.assertEqual(need(1, [5, 0], [5, 0], [3, 0]), [2, 9, 0])

    def test_how_many_comes_first(self):
        for n in ALL_N:
            for weight in (1, 30, 1000):
                answer = need(n, row(n, weight), row(n, 1), row(n, weight))
                self.assertEqual(answer[0], 2 ** n)
                self.assertEqual(len(answer), 1 + 2 ** n)

    def test_each_pair_alone(self):
        for n in ALL_N:
            for s, t in itertools.product(range(2 ** n), repeat=2):
                a, b = only(n, s, 9), only(n, t, 3)
                answer = need(n, a, b, only(n, EITHER[s, t], 5))
                self.assertEqual(answer, [2 ** n] + only(n, BOTH[s, t], 6), (n, s, t))

    def test_of_several_pairs_the_greatest_counts_wherever_it_stands(self):
        for n in ALL_N:
            for s in range(2 ** n):
                # Of the empty set beside each s: 2, and 7 of this one.
                a = row(n, 2, **{f"s{s}": 7})
                answer = need(n, a, only(n, 0, 1), row(n, 1))
                self.assertEqual(answer, [2 ** n] + only(n, 0, 7), (n, s))
                answer = need(n, only(n, 0, 1), a, row(n, 1))
                self.assertEqual(answer, [2 ** n] + only(n, 0, 7), (n, s))


class EnoughAndNowhereMore(unittest.TestCase):
    def assert_least(self, n, a, b, c):
        """The answer is enough, and beside whatever others one less is not."""
        answer = need(n, a, b, c)
        if not is_enough(n, a, b, c, row(n, PLENTY)):
            self.assertEqual(answer, NO_ANSWER, (n, a, b, c))
            return
        self.assertEqual(answer[0], 2 ** n)
        least = answer[1:]
        self.assertEqual(len(least), 2 ** n)
        self.assertGreaterEqual(min(least), 0)
        self.assertTrue(is_enough(n, a, b, c, least), (n, a, b, c))
        for place in range(2 ** n):
            if least[place]:
                others = row(n, PLENTY, **{f"s{place}": least[place] - 1})
                self.assertFalse(is_enough(n, a, b, c, others), (n, a, b, c, place))

    def assert_least_of_all(self, n, a, b, c, most):
        """Held against each fourth one up to most."""
        answer = need(n, a, b, c)
        enough = [
            d for d in itertools.product(range(most + 1), repeat=2 ** n)
            if is_enough(n, a, b, c, d)
        ]
        if not enough:
            self.assertEqual(answer, NO_ANSWER, (n, a, b, c))
            return
        self.assertIn(tuple(answer[1:]), enough)
        for d in enough:
            self.assertTrue(all(less <= more for less, more in zip(answer[1:], d, strict=True)), (n, a, b, c, d))

    def test_all_small_weights_at_n_of_1(self):
        for w in itertools.product(range(3), repeat=6):
            self.assert_least_of_all(1, list(w[:2]), list(w[2:4]), list(w[4:]), 4)

    def test_all_weights_of_0_and_1_at_n_of_2(self):
        rows = [list(w) for w in itertools.product(range(2), repeat=4)]
        for a, b, c in itertools.product(rows, repeat=3):
            self.assert_least_of_all(2, a, b, c, 1)

    def test_more_weights_at_n_of_1_and_2(self):
        for w in itertools.product((0, 1, 4, 5), repeat=6):
            self.assert_least(1, list(w[:2]), list(w[2:4]), list(w[4:]))
        rows = [list(w) for w in itertools.product((0, 2, 3), repeat=4)]
        for a, b, c in itertools.product(rows[::4], rows[1::5], rows[::3]):
            self.assert_least(2, a, b, c)

    def test_mixed_weights_up_to_n_of_5(self):
        for n in ALL_N:
            for step in range(1, 8):
                a, b = spread(n, step, 1001), spread(n, step + 7, 1001)
                c = [w + 1 for w in spread(n, step + 100, 1000)]
                self.assert_least(n, a, b, c)

    def test_mixed_weights_with_many_of_0(self):
        for n in ALL_N:
            for step in range(1, 30):
                a, b = [[max(0, w - 5) for w in spread(n, step + k, 9)] for k in (0, 7)]
                self.assert_least(n, a, b, spread(n, step + 100, 20))

    def test_holds_says_the_same(self):
        tried = 0
        for n in ALL_N:
            for step in range(1, 8):
                a, b = spread(n, step, 30), spread(n, step + 7, 30)
                c = [w + 1 for w in spread(n, step + 100, 40)]
                least = need(n, a, b, c)[1:]
                self.assertLessEqual(max(least), 1000)
                self.assertEqual(holds(n, a, b, c, least), [1])
                for place in range(2 ** n):
                    if least[place]:
                        less = list(least)
                        less[place] -= 1
                        self.assertEqual(holds(n, a, b, c, less)[0], 0)
                        tried += 1
        self.assertGreater(tried, 100)

    def test_first_two_exchanged(self):
        rows = [list(w) for w in itertools.product(range(2), repeat=4)]
        for a, b in itertools.combinations(rows, 2):
            for c in rows:
                self.assertEqual(need(2, a, b, c), need(2, b, a, c))


class ThereAreNone(unittest.TestCase):
    def test_c_of_0_where_more_is_needed(self):
        self.assertEqual(need(1, [1, 0], [1, 0], [0, 1]), NO_ANSWER)
        self.assertEqual(need(1, [0, 1], [0, 1], [1, 0]), NO_ANSWER)
        self.assertEqual(need(1, [1, 0], [0, 1], [1, 0]), NO_ANSWER)
        self.assertEqual(need(1, [0, 1], [1, 0], [1, 0]), NO_ANSWER)

    def test_each_pair_alone(self):
        for n in ALL_N:
            for s, t in itertools.product(range(2 ** n), repeat=2):
                c = row(n, 1, **{f"s{EITHER[s, t]}": 0})
                self.assertEqual(need(n, only(n, s, 1), only(n, t, 1), c), NO_ANSWER, (n, s, t))

    def test_c_of_0_where_nothing_is_needed(self):
        self.assertEqual(need(1, [1, 0], [1, 0], [1, 0]), [2, 1, 0])
        self.assertEqual(need(1, [0, 1], [0, 1], [0, 1]), [2, 0, 1])
        for n in ALL_N:
            for s in range(2 ** n):
                self.assertEqual(need(n, only(n, s, 3), row(n, 0), row(n, 0)), [2 ** n] + row(n, 0))
                self.assertEqual(need(n, row(n, 0), only(n, s, 3), row(n, 0)), [2 ** n] + row(n, 0))
                self.assertEqual(need(n, only(n, s, 3), only(n, s, 3), only(n, s, 9)), [2 ** n] + only(n, s, 1))

    def test_nothing_of_the_answer_stands_beside_the_refusal(self):
        for n in ALL_N:
            last = 2 ** n - 1
            c = row(n, 1, **{f"s{last}": 0})
            self.assertEqual(need(n, row(n, 1), row(n, 1), c), NO_ANSWER)


class Corners(unittest.TestCase):
    def test_all_weights_0(self):
        for n in ALL_N:
            nothing = row(n, 0)
            self.assertEqual(need(n, nothing, nothing, nothing), [2 ** n] + nothing)
            self.assertEqual(need(n, nothing, row(n, 9), nothing), [2 ** n] + nothing)
            self.assertEqual(need(n, row(n, 9), nothing, nothing), [2 ** n] + nothing)
            self.assertEqual(need(n, nothing, nothing, row(n, 9)), [2 ** n] + nothing)
            self.assertEqual(need(n, row(n, 1), row(n, 1), nothing), NO_ANSWER)

    def test_all_weights_1(self):
        for n in ALL_N:
            ones = row(n, 1)
            self.assertEqual(need(n, ones, ones, ones), [2 ** n] + ones)

    def test_the_same_lists(self):
        for n in ALL_N:
            w = [3 ** len(members(s)) for s in range(2 ** n)]
            self.assertEqual(need(n, w, w, w), [2 ** n] + w)
            self.assertEqual(need(n, list(w), list(w), list(w)), [2 ** n] + w)
        w = [5, 0]
        self.assertEqual(need(1, w, w, w), [2, 5, 0])
        w = [0, 1, 1, 0]
        self.assertEqual(need(2, w, w, w), NO_ANSWER)
        w = [1, 2, 3, 4]
        # Of 1 and 2: 2*3/4, so 2; the others want no more than w itself.
        self.assertEqual(need(2, w, w, w), [4, 2, 2, 3, 4])

    def test_n_of_1(self):
        self.assertEqual(need(1, [0, 0], [0, 0], [0, 0]), [2, 0, 0])
        self.assertEqual(need(1, [1, 1], [1, 1], [1, 1]), [2, 1, 1])
        self.assertEqual(need(1, [0, 4], [0, 4], [0, 3]), [2, 0, 6])
        self.assertEqual(need(1, [4, 0], [0, 4], [0, 3]), [2, 6, 0])


class Refusals(unittest.TestCase):
    def assert_refused_in_each_place(self, n, wrong):
        for place in range(3):
            three = [row(n, 1) for unused in range(3)]
            three[place] = list(wrong)
            self.assertEqual(need(n, *three), REFUSED, (n, place, wrong))

    def test_n_is_not_1_to_5(self):
        for n in (0, 6, 7, 32, 40, 64, LARGEST):
            for length in (0, 1, 2, 4, 6, 7, 8, 16, 32, 40):
                for weight in (0, 1, LARGEST):
                    w = [weight] * length
                    self.assertEqual(need(n, w, w, w), REFUSED, (n, length, weight))

    def test_too_short_and_too_long(self):
        for n in ALL_N:
            for length in range(41):
                if length != 2 ** n:
                    self.assert_refused_in_each_place(n, [1] * length)
                    self.assertEqual(need(n, [1] * length, [1] * length, [1] * length), REFUSED)

    def test_empty_lists(self):
        for n in ALL_N:
            self.assert_refused_in_each_place(n, [])
            self.assertEqual(need(n, [], [], []), REFUSED)

    def test_a_weight_above_1000(self):
        for n in ALL_N:
            for weight in (1001, LARGEST):
                for place in range(2 ** n):
                    self.assert_refused_in_each_place(n, row(n, 1, **{f"s{place}": weight}))

    def test_1000_and_0_are_weights(self):
        for n in ALL_N:
            self.assertEqual(need(n, row(n, 1000), row(n, 1), row(n, 1)), [2 ** n] + row(n, 1000))
            self.assertEqual(need(n, row(n, 1), row(n, 1000), row(n, 1)), [2 ** n] + row(n, 1000))
            self.assertEqual(need(n, row(n, 1), row(n, 1), row(n, 1000)), [2 ** n] + row(n, 1))

    def test_both_refusals_due(self):
        # Nothing is enough of the lists that are weights, or of those that are there.
        for n in ALL_N:
            for wrong in ([], [1] * (2 ** n - 1), [1] * (2 ** n + 1), row(n, 1001), row(n, 1, s1=LARGEST)):
                self.assertEqual(need(n, wrong, row(n, 1), row(n, 0)), REFUSED, (n, wrong))
                self.assertEqual(need(n, row(n, 1), wrong, row(n, 0)), REFUSED, (n, wrong))
            for wrong in ([], [0], [0] * (2 ** n + 1), row(n, 0, s1=1001), row(n, 0, s1=LARGEST)):
                self.assertEqual(need(n, row(n, 1), row(n, 1), wrong), REFUSED, (n, wrong))
        for n in (0, 6, LARGEST):
            for length in (1, 2, 32, 40):
                self.assertEqual(need(n, [1] * length, [1] * length, [0] * length), REFUSED)


class NothingLeftBehind(LeavesNothing, unittest.TestCase):
    call = staticmethod(need)
    names = ["n", "a", "b", "c"]
    calls = (
        (1, [2, 5], [3, 7], [1, 4]),
        (2, [1, 2, 3, 4], [4, 3, 2, 1], [9, 8, 7, 6]),
        (5, row(5, 1000), row(5, 1000), row(5, 1)),
        (3, row(3, 0), row(3, 0), row(3, 0)),
        (2, [0, 1, 1, 0], [0, 1, 1, 0], [0, 1, 1, 0]),
        (0, [1], [1], [1]),
        (3, row(3, 1), row(3, 1), row(3, 1001)),
        (3, row(3, 1), [], row(2, 1)),
    )
    answers = (
        [2, 6, 9], [4, 3, 2, 2, 1], [32] + row(5, 1000000), [8] + row(3, 0),
        NO_ANSWER, REFUSED, REFUSED, REFUSED,
    )

    def test_a_list_changed_between_calls_is_looked_at_anew(self):
        c = row(2, 1)
        self.assertEqual(need(2, row(2, 1), row(2, 1), c), [4, 1, 1, 1, 1])
        c[3] = 0
        self.assertEqual(need(2, row(2, 1), row(2, 1), c), NO_ANSWER)
        c[3] = 1001
        self.assertEqual(need(2, row(2, 1), row(2, 1), c), REFUSED)

    def test_one_list_handed_in_three_times(self):
        w = [1, 2, 3, 4]
        self.assertEqual(need(2, w, w, w), [4, 2, 2, 3, 4])
        self.assertEqual(w, [1, 2, 3, 4])

    def test_arguments_by_name(self):
        self.assertEqual(need(n=1, a=[2, 5], b=[3, 7], c=[1, 4]), [2, 6, 9])


if __name__ == "__main__":
    unittest.main()
