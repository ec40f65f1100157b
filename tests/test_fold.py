"""Tests of foursums.fours.fold against the document's words."""

import itertools
import unittest

from foursums.fours import fold, holds
from words import (
    ALL_N, LARGEST, NO_ANSWER, REFUSED, LeavesNothing, members, number_of, only, pairs_not_so, row, spread,
)

MORE_THAN_1 = (2, 3, 4, 5)


def forgotten(n, a):
    """Each set's weight goes to that set without the last thing."""
    weights = {number_of(members(s) - {n - 1}): 0 for s in range(2 ** n)}
    for s in range(2 ** n):
        weights[number_of(members(s) - {n - 1})] += a[s]
    return [weights[s] for s in sorted(weights)]


class Answers(unittest.TestCase):
    def test_n_of_2_by_hand(self):
        # Thing 1 counts 2: set 2 goes with the empty set, set 3 with set 1.
        self.assertEqual(fold(2, [1, 2, 3, 4]), [2, 4, 6])
        self.assertEqual(fold(2, [5, 0, 0, 7]), [2, 5, 7])
        self.assertEqual(fold(2, [0, 1, 10, 100]), [2, 10, 101])

    def test_n_of_3_by_hand(self):
        # Thing 2 counts 4.
        self.assertEqual(fold(3, [1, 2, 3, 4, 5, 6, 7, 8]), [4, 6, 8, 10, 12])
        self.assertEqual(fold(3, [1, 2, 3, 4, 100, 200, 300, 400]), [4, 101, 202, 303, 404])

    def test_n_of_4_by_hand(self):
        # Thing 3 counts 8.
        self.assertEqual(
            fold(4, [1, 2, 3, 4, 5, 6, 7, 8, 10, 20, 30, 40, 50, 60, 70, 80]),
            [8, 11, 22, 33, 44, 55, 66, 77, 88],
        )

    def test_n_of_5_by_hand(self):
        # Thing 4 counts 16: of 0 and 16, 1 and 17 and so on.
        self.assertEqual(
            fold(5, list(range(32))),
            [16, 16, 18, 20, 22, 24, 26, 28, 30, 32, 34, 36, 38, 40, 42, 44, 46],
        )

    def test_above_1000(self):
        self.assertEqual(fold(2, [1000, 1, 1, 1000]), [2, 1001, 1001])
        self.assertEqual(fold(2, [500, 600, 500, 600]), [2, 1000, 1200])
        self.assertEqual(fold(3, [999, 1000, 0, 1, 2, 1000, 1000, 999]), [4, 1001, 2000, 1000, 1000])
        for n in MORE_THAN_1:
            self.assertEqual(fold(n, row(n, 1000)), [2 ** (n - 1)] + row(n - 1, 2000))

    def test_how_many_comes_first(self):
        for n in MORE_THAN_1:
            for weight in (0, 1, 30, 1000):
                answer = fold(n, row(n, weight))
                self.assertEqual(answer[0], 2 ** (n - 1))
                self.assertEqual(len(answer), 1 + 2 ** (n - 1))

    def test_each_set_alone(self):
        for n in MORE_THAN_1:
            for s in range(2 ** n):
                without = number_of(members(s) - {n - 1})
                self.assertEqual(fold(n, only(n, s, 9)), [2 ** (n - 1)] + only(n - 1, without, 9), (n, s))

    def test_mixed_weights(self):
        for n in MORE_THAN_1:
            for step in range(1, 60):
                a = spread(n, step, 1001)
                self.assertEqual(fold(n, a), [2 ** (n - 1)] + forgotten(n, a), (n, step))

    def test_all_small_weights_at_n_of_2(self):
        for w in itertools.product(range(4), repeat=4):
            self.assertEqual(fold(2, list(w)), [2, w[0] + w[2], w[1] + w[3]])

    def test_one_thing_after_the_other(self):
        # 32 weights below 30 are never above 1000 together, so each answer is weights again.
        a = spread(5, 17, 30)
        total = sum(a)
        for n in (5, 4, 3, 2):
            a = fold(n, a)[1:]
            self.assertEqual(sum(a), total)
        self.assertEqual(fold(1, a), NO_ANSWER)


class HoldsStill(unittest.TestCase):
    def assert_holds_still(self, n, four):
        self.assertEqual(holds(n, *four), [1])
        folded = [fold(n, w)[1:] for w in four]
        self.assertEqual(pairs_not_so(n - 1, *folded), [], four)
        if max(max(w) for w in folded) <= 1000:
            self.assertEqual(holds(n - 1, *folded), [1], four)
            return 1
        return 0

    def test_all_weights_of_0_and_1_at_n_of_2(self):
        rows = [list(w) for w in itertools.product(range(2), repeat=4)]
        tried = 0
        for four in itertools.product(rows, repeat=4):
            if holds(2, *four) == [1]:
                tried += self.assert_holds_still(2, four)
        self.assertGreater(tried, 1000)

    def test_weights_that_are_just_enough(self):
        tried = 0
        for n in MORE_THAN_1:
            for step in range(1, 30):
                a, b = spread(n, step, 12), spread(n, step + 7, 12)
                c = [w + 5 for w in spread(n, step + 100, 20)]
                d = [0] * 2 ** n
                for s, t in pairs_not_so(n, a, b, c, d):
                    both = number_of(members(s) & members(t))
                    either = number_of(members(s) | members(t))
                    d[both] = max(d[both], -(-a[s] * b[t] // c[either]))
                tried += self.assert_holds_still(n, (a, b, c, d))
        self.assertEqual(tried, 4 * 29)

    def test_the_same_four_times(self):
        for n in MORE_THAN_1:
            w = [2 ** len(members(s)) for s in range(2 ** n)]
            self.assertEqual(self.assert_holds_still(n, (w, w, w, w)), 1)

    def test_folded_weights_above_1000_are_weights_no_more(self):
        full = row(3, 1000)
        self.assertEqual(self.assert_holds_still(3, (full, full, full, full)), 0)
        folded = fold(3, full)[1:]
        self.assertEqual(holds(2, folded, folded, folded, folded), REFUSED)
        self.assertEqual(fold(2, folded), REFUSED)


class Corners(unittest.TestCase):
    def test_all_weights_0(self):
        for n in MORE_THAN_1:
            self.assertEqual(fold(n, row(n, 0)), [2 ** (n - 1)] + row(n - 1, 0))

    def test_all_weights_1(self):
        for n in MORE_THAN_1:
            self.assertEqual(fold(n, row(n, 1)), [2 ** (n - 1)] + row(n - 1, 2))

    def test_n_of_1(self):
        for w in itertools.product((0, 1, 2, 999, 1000), repeat=2):
            self.assertEqual(fold(1, list(w)), NO_ANSWER, w)


class Refusals(unittest.TestCase):
    def test_n_is_not_1_to_5(self):
        for n in (0, 6, 7, 32, 40, 64, LARGEST):
            for length in (0, 1, 2, 4, 6, 7, 8, 16, 32, 40):
                for weight in (0, 1, LARGEST):
                    self.assertEqual(fold(n, [weight] * length), REFUSED, (n, length, weight))

    def test_too_short_and_too_long(self):
        for n in ALL_N:
            for length in range(41):
                if length != 2 ** n:
                    for weight in (0, 1, 1000):
                        self.assertEqual(fold(n, [weight] * length), REFUSED, (n, length))

    def test_empty_list(self):
        for n in ALL_N:
            self.assertEqual(fold(n, []), REFUSED)

    def test_a_weight_above_1000(self):
        for n in ALL_N:
            for weight in (1001, LARGEST):
                for place in range(2 ** n):
                    self.assertEqual(fold(n, row(n, 1, **{f"s{place}": weight})), REFUSED, (n, weight, place))
                self.assertEqual(fold(n, row(n, weight)), REFUSED)

    def test_1000_and_0_are_weights(self):
        for n in MORE_THAN_1:
            for place in range(2 ** n):
                for weight in (0, 1000):
                    a = row(n, 1, **{f"s{place}": weight})
                    self.assertEqual(fold(n, a), [2 ** (n - 1)] + forgotten(n, a))

    def test_both_refusals_due(self):
        for wrong in ([], [1], [1, 1, 1], [1] * 4, [0] * 40, [1001, 0], [0, 1001], [LARGEST, 0], [0, LARGEST]):
            self.assertEqual(fold(1, wrong), REFUSED, wrong)


class NothingLeftBehind(LeavesNothing, unittest.TestCase):
    call = staticmethod(fold)
    names = ["n", "a"]
    calls = (
        (2, [1, 2, 3, 4]),
        (3, [1, 2, 3, 4, 100, 200, 300, 400]),
        (5, row(5, 1000)),
        (1, [3, 4]),
        (0, [1]),
        (1, [1, 2, 3]),
        (4, row(4, 1001)),
    )
    answers = ([2, 4, 6], [4, 101, 202, 303, 404], [16] + row(4, 2000), NO_ANSWER, REFUSED, REFUSED, REFUSED)

    def test_a_list_changed_between_calls_is_looked_at_anew(self):
        a = row(2, 1)
        self.assertEqual(fold(2, a), [2, 2, 2])
        a[3] = 7
        self.assertEqual(fold(2, a), [2, 2, 8])
        a[3] = 1001
        self.assertEqual(fold(2, a), REFUSED)

    def test_arguments_by_name(self):
        self.assertEqual(fold(n=2, a=[1, 2, 3, 4]), [2, 4, 6])


if __name__ == "__main__":
    unittest.main()
