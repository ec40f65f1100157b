"""Tests of foursums.fours.gap against the document's words."""

import itertools
import unittest

from foursums.fours import gap, need, sides
from words import ALL_N, LARGEST, REFUSED, LeavesNothing, both_sides, held, members, only, row, spread


def all_sets(n):
    return list(range(2 ** n))


def expected(n, a, b, c, d):
    return held(*both_sides(a, b, c, d, all_sets(n), all_sets(n)))


class Answers(unittest.TestCase):
    def test_n_of_1_by_hand(self):
        # 5*12 and 24*36.
        self.assertEqual(gap(1, [2, 3], [5, 7], [11, 13], [17, 19]), [1, 60, 864])
        self.assertEqual(gap(1, [11, 13], [17, 19], [2, 3], [5, 7]), [0, 864, 60])
        self.assertEqual(gap(1, [1, 2], [3, 1], [4, 2], [2, 0]), [1, 12, 12])
        self.assertEqual(gap(1, [1, 2], [3, 1], [4, 2], [1, 0]), [0, 12, 6])

    def test_n_of_2_by_hand(self):
        # 10*10 and 20*5, then 10*11 and 20*5, then 10*10 and 21*5.
        self.assertEqual(gap(2, [1, 2, 3, 4], [4, 3, 2, 1], [5, 5, 5, 5], [2, 1, 1, 1]), [1, 100, 100])
        self.assertEqual(gap(2, [1, 2, 3, 4], [4, 3, 2, 2], [5, 5, 5, 5], [2, 1, 1, 1]), [0, 110, 100])
        self.assertEqual(gap(2, [1, 2, 3, 4], [4, 3, 2, 1], [5, 5, 5, 6], [2, 1, 1, 1]), [1, 100, 105])

    def test_n_of_3_and_4_by_hand(self):
        self.assertEqual(gap(3, [1, 2, 3, 4, 5, 6, 7, 8], row(3, 1), row(3, 6), row(3, 1)), [1, 288, 384])
        self.assertEqual(gap(3, [1, 2, 3, 4, 5, 6, 7, 8], row(3, 1), row(3, 4), row(3, 1)), [0, 288, 256])
        self.assertEqual(gap(4, list(range(16)), row(4, 2), row(4, 5), row(4, 3)), [1, 3840, 3840])

    def test_n_of_5_by_hand(self):
        rising = list(range(32))
        # 0 to 31 are 496 together: 496*496 and 496*480, or 496*512.
        self.assertEqual(gap(5, rising, rising, rising, row(5, 15)), [0, 246016, 238080])
        self.assertEqual(gap(5, rising, rising, rising, row(5, 16)), [1, 246016, 253952])
        self.assertEqual(gap(5, rising, rising, rising, rising), [1, 246016, 246016])

    def test_one_more_or_less_beside_both_alike(self):
        for n in ALL_N:
            for place in range(2 ** n):
                b, c, d = only(n, place, 1), only(n, 0, 8), only(n, 2 ** n - 1, 3)
                self.assertEqual(gap(n, only(n, place, 23), b, c, d), [1, 23, 24])
                self.assertEqual(gap(n, only(n, place, 24), b, c, d), [1, 24, 24])
                self.assertEqual(gap(n, only(n, place, 25), b, c, d), [0, 25, 24])

    def test_each_set_counts(self):
        for n in ALL_N:
            for s, t in itertools.product(range(2 ** n), repeat=2):
                self.assertEqual(gap(n, only(n, s, 2), only(n, t, 3), only(n, t, 5), only(n, s, 7)), [1, 6, 35])

    def test_alike_though_it_does_not_hold(self):
        w = [0, 1, 1, 0]
        self.assertEqual(gap(2, w, w, w, w), [1, 4, 4])

    def test_all_small_weights_at_n_of_1(self):
        for w in itertools.product(range(3), repeat=8):
            four = [list(w[k:k + 2]) for k in (0, 2, 4, 6)]
            self.assertEqual(gap(1, *four), expected(1, *four), four)

    def test_mixed_weights_up_to_n_of_5(self):
        told = set()
        for n in ALL_N:
            for step in range(1, 60):
                a, b = spread(n, step, 1001), spread(n, step + 7, 901)
                c, d = spread(n, step + 3, 901), spread(n, step + 2, 1001)
                answer = gap(n, a, b, c, d)
                self.assertEqual(answer, expected(n, a, b, c, d), (n, step))
                told.add((n, answer[0]))
        self.assertEqual(told, set(itertools.product(ALL_N, (0, 1))))


class AsSidesDoes(unittest.TestCase):
    def test_all_weights_of_0_and_1_at_n_of_2(self):
        rows = [list(w) for w in itertools.product(range(2), repeat=4)]
        for four in itertools.islice(itertools.product(rows, repeat=4), 0, None, 7):
            self.assertEqual(gap(2, *four), sides(2, *four, all_sets(2), all_sets(2)), four)

    def test_all_small_weights_at_n_of_1(self):
        for w in itertools.product(range(3), repeat=8):
            four = [list(w[k:k + 2]) for k in (0, 2, 4, 6)]
            self.assertEqual(gap(1, *four), sides(1, *four, [0, 1], [0, 1]), four)

    def test_mixed_weights_up_to_n_of_5(self):
        for n in ALL_N:
            for step in range(1, 30):
                four = [spread(n, step + k, 1001) for k in (0, 7, 100, 31)]
                self.assertEqual(gap(n, *four), sides(n, *four, all_sets(n), all_sets(n)), (n, step))

    def test_refusals(self):
        for n in ALL_N:
            for wrong in ([], [1] * (2 ** n - 1), [1] * (2 ** n + 1), row(n, 1, s1=1001)):
                for place in range(4):
                    four = [row(n, 1) for unused in range(4)]
                    four[place] = wrong
                    self.assertEqual(gap(n, *four), sides(n, *four, all_sets(n), all_sets(n)))


class Corners(unittest.TestCase):
    def test_all_weights_0(self):
        for n in ALL_N:
            nothing, ones = row(n, 0), row(n, 1)
            self.assertEqual(gap(n, nothing, nothing, nothing, nothing), [1, 0, 0])
            self.assertEqual(gap(n, ones, nothing, nothing, ones), [1, 0, 0])
            self.assertEqual(gap(n, nothing, ones, ones, nothing), [1, 0, 0])
            self.assertEqual(gap(n, nothing, nothing, ones, ones), [1, 0, 4 ** n])
            self.assertEqual(gap(n, ones, ones, nothing, ones), [0, 4 ** n, 0])
            self.assertEqual(gap(n, ones, ones, ones, nothing), [0, 4 ** n, 0])

    def test_all_weights_1(self):
        for n in ALL_N:
            ones = row(n, 1)
            self.assertEqual(gap(n, ones, ones, ones, ones), [1, 4 ** n, 4 ** n])

    def test_largest_weights(self):
        for n in ALL_N:
            full, most = row(n, 1000), 1000000 * 4 ** n
            self.assertEqual(gap(n, full, full, full, full), [1, most, most])
            less = row(n, 1000, s1=999)
            self.assertEqual(gap(n, full, full, full, less), [0, most, most - 1000 * 2 ** n])
            self.assertEqual(gap(n, less, full, full, full), [1, most - 1000 * 2 ** n, most])

    def test_the_same_four_times(self):
        for n in ALL_N:
            # Each thing makes three times as much, so all sets together are 4 to the power of n.
            w = [3 ** len(members(s)) for s in range(2 ** n)]
            self.assertEqual(gap(n, w, w, w, w), [1, 16 ** n, 16 ** n])
            self.assertEqual(gap(n, list(w), list(w), list(w), list(w)), [1, 16 ** n, 16 ** n])

    def test_a_fourth_one_that_is_just_enough(self):
        a, b, c = [2, 5], [3, 7], [1, 4]
        self.assertEqual(need(1, a, b, c), [2, 6, 9])
        self.assertEqual(gap(1, a, b, c, [6, 9]), [1, 70, 75])
        for n in ALL_N:
            a, b = spread(n, 5, 30), spread(n, 8, 30)
            c = [w + 1 for w in spread(n, 13, 40)]
            d = need(n, a, b, c)[1:]
            self.assertEqual(gap(n, a, b, c, d), [1, sum(a) * sum(b), sum(c) * sum(d)])

    def test_n_of_1(self):
        self.assertEqual(gap(1, [0, 0], [0, 0], [0, 0], [0, 0]), [1, 0, 0])
        self.assertEqual(gap(1, [1, 1], [1, 1], [1, 1], [1, 1]), [1, 4, 4])
        self.assertEqual(gap(1, [0, 1], [1, 0], [1, 0], [0, 0]), [0, 1, 0])


class Refusals(unittest.TestCase):
    def assert_refused_in_each_place(self, n, wrong):
        for place in range(4):
            for others in (0, 1):
                four = [row(n, others) for unused in range(4)]
                four[place] = list(wrong)
                self.assertEqual(gap(n, *four), REFUSED, (n, place, wrong))

    def test_n_is_not_1_to_5(self):
        for n in (0, 6, 7, 32, 40, 64, LARGEST):
            for length in (0, 1, 2, 4, 6, 7, 8, 16, 32, 40):
                for weight in (0, 1, LARGEST):
                    w = [weight] * length
                    self.assertEqual(gap(n, w, w, w, w), REFUSED, (n, length, weight))

    def test_too_short_and_too_long(self):
        for n in ALL_N:
            for length in range(41):
                if length != 2 ** n:
                    self.assert_refused_in_each_place(n, [1] * length)
                    self.assertEqual(gap(n, *[[1] * length] * 4), REFUSED)

    def test_empty_lists(self):
        for n in ALL_N:
            self.assert_refused_in_each_place(n, [])
            self.assertEqual(gap(n, [], [], [], []), REFUSED)

    def test_a_weight_above_1000(self):
        for n in ALL_N:
            for weight in (1001, LARGEST):
                for place in range(2 ** n):
                    self.assert_refused_in_each_place(n, row(n, 0, **{f"s{place}": weight}))

    def test_1000_and_0_are_weights(self):
        for n in ALL_N:
            for place in range(4):
                for weight in (0, 1000):
                    four = [row(n, 1) for unused in range(4)]
                    four[place] = row(n, weight)
                    self.assertEqual(gap(n, *four), expected(n, *four))


class NothingLeftBehind(LeavesNothing, unittest.TestCase):
    call = staticmethod(gap)
    names = ["n", "a", "b", "c", "d"]
    calls = (
        (1, [2, 3], [5, 7], [11, 13], [17, 19]),
        (2, [1, 2, 3, 4], [4, 3, 2, 2], [5, 5, 5, 5], [2, 1, 1, 1]),
        (5, row(5, 1000), row(5, 1000), row(5, 1000), row(5, 1000)),
        (3, row(3, 0), row(3, 0), row(3, 0), row(3, 0)),
        (0, [1], [1], [1], [1]),
        (3, row(3, 1), row(3, 1), row(3, 1), row(3, 1001)),
        (3, row(3, 1), [], row(2, 1), row(4, 1)),
    )
    answers = (
        [1, 60, 864], [0, 110, 100], [1, 1024000000, 1024000000], [1, 0, 0],
        REFUSED, REFUSED, REFUSED,
    )

    def test_a_list_changed_between_calls_is_looked_at_anew(self):
        ones, d = row(2, 1), row(2, 1)
        self.assertEqual(gap(2, ones, ones, ones, d), [1, 16, 16])
        d[3] = 0
        self.assertEqual(gap(2, ones, ones, ones, d), [0, 16, 12])
        d[3] = 1001
        self.assertEqual(gap(2, ones, ones, ones, d), REFUSED)

    def test_one_list_handed_in_four_times(self):
        w = [1, 2]
        self.assertEqual(gap(1, w, w, w, w), [1, 9, 9])
        self.assertEqual(w, [1, 2])

    def test_arguments_by_name(self):
        self.assertEqual(gap(n=1, a=[2, 3], b=[5, 7], c=[11, 13], d=[17, 19]), [1, 60, 864])


if __name__ == "__main__":
    unittest.main()
