"""Tests of foursums.fours.holds against the document's words."""

import itertools
import unittest

from foursums.fours import holds
from words import ALL_N, BOTH, EITHER, LARGEST, REFUSED, LeavesNothing, members, only, pairs_not_so, row, spread


def expected(n, a, b, c, d):
    pairs = pairs_not_so(n, a, b, c, d)
    return [0, *pairs[0]] if pairs else [1]


def just_enough(n, a, b, c):
    """The least fourth ones; c is nowhere 0."""
    least = [0] * 2 ** n
    for s, t in itertools.product(range(2 ** n), repeat=2):
        wanted = -(-a[s] * b[t] // c[EITHER[s, t]])
        least[BOTH[s, t]] = max(least[BOTH[s, t]], wanted)
    return least


class Answers(unittest.TestCase):
    def test_answer_is_1_alone_where_it_holds(self):
        self.assertEqual(holds(2, [1, 2, 3, 6], [1, 1, 1, 1], [1, 2, 3, 6], [1, 1, 1, 1]), [1])
        self.assertEqual(holds(2, [1, 2, 3, 4], [4, 3, 2, 1], [9, 9, 9, 9], [9, 9, 9, 9]), [1])
        self.assertEqual(holds(5, row(5, 7), row(5, 6), row(5, 21), row(5, 2)), [1])

    def test_of_several_pairs_the_first_one_is_told(self):
        a, b, c, d = [1, 2, 3, 4], [1, 1, 2, 1], [3, 3, 3, 3], [1, 1, 1, 1]
        self.assertEqual(pairs_not_so(2, a, b, c, d), [(1, 2), (2, 2), (3, 0), (3, 1), (3, 2), (3, 3)])
        self.assertEqual(holds(2, a, b, c, d), [0, 1, 2])

    def test_s_goes_before_t(self):
        # Not so of (1, 3) and (2, 0) alone: by t first it would be (2, 0).
        a, b = [0, 1, 1, 0], [1, 0, 0, 1]
        c, d = [1, 1, 0, 1], [1, 0, 1, 1]
        self.assertEqual(pairs_not_so(2, a, b, c, d), [(1, 3), (2, 0)])
        self.assertEqual(holds(2, a, b, c, d), [0, 1, 3])

    def test_t_rises_for_the_same_s(self):
        a, b = only(3, 5, 1), row(3, 1)
        c, d = row(3, 1, s5=0, s7=0), row(3, 1)
        self.assertEqual(holds(3, a, b, c, d), [0, 5, 0])
        self.assertEqual(holds(3, a, row(3, 1, s0=0, s1=0), c, d), [0, 5, 2])

    def test_first_pair_at_the_very_beginning(self):
        for n in ALL_N:
            self.assertEqual(holds(n, row(n, 1), row(n, 1), row(n, 0), row(n, 0)), [0, 0, 0])
            self.assertEqual(holds(n, only(n, 0, 1), only(n, 0, 1), row(n, 1, s0=0), row(n, 1)), [0, 0, 0])

    def test_only_pair_at_the_very_end(self):
        for n in ALL_N:
            last = 2 ** n - 1
            a = b = row(n, 1, **{f"s{last}": 2})
            c = d = row(n, 2, **{f"s{last}": 1})
            self.assertEqual(pairs_not_so(n, a, b, c, d), [(last, last)])
            self.assertEqual(holds(n, a, b, c, d), [0, last, last])

    def test_each_pair_alone(self):
        for n in ALL_N:
            for s, t in itertools.product(range(2 ** n), repeat=2):
                a, b = only(n, s, 1), only(n, t, 1)
                without_either = row(n, 1, **{f"s{EITHER[s, t]}": 0})
                without_both = row(n, 1, **{f"s{BOTH[s, t]}": 0})
                self.assertEqual(holds(n, a, b, without_either, row(n, 1)), [0, s, t])
                self.assertEqual(holds(n, a, b, row(n, 1), without_both), [0, s, t])

    def test_a_goes_with_s_and_b_with_t(self):
        self.assertEqual(holds(2, only(2, 1, 1), only(2, 2, 1), row(2, 0), row(2, 0)), [0, 1, 2])
        self.assertEqual(holds(2, only(2, 2, 1), only(2, 1, 1), row(2, 0), row(2, 0)), [0, 2, 1])

    def test_c_goes_with_either_and_d_with_both(self):
        a, b = only(2, 1, 1), only(2, 2, 1)
        self.assertEqual(holds(2, a, b, only(2, 3, 1), only(2, 0, 1)), [1])
        self.assertEqual(holds(2, a, b, only(2, 0, 1), only(2, 3, 1)), [0, 1, 2])

    def test_all_small_weights_at_n_of_1(self):
        for w in itertools.product(range(3), repeat=8):
            four = [list(w[k:k + 2]) for k in (0, 2, 4, 6)]
            self.assertEqual(holds(1, *four), expected(1, *four), four)

    def test_all_weights_of_0_and_1_at_n_of_2(self):
        rows = [list(w) for w in itertools.product(range(2), repeat=4)]
        for four in itertools.product(rows, repeat=4):
            self.assertEqual(holds(2, *four), expected(2, *four), four)

    def test_mixed_weights_up_to_n_of_5(self):
        for n in ALL_N:
            for step in range(1, 60):
                a, b = spread(n, step, 40), spread(n, step + 7, 30)
                c, d = spread(n, step + 100, 900), [w + 20 for w in spread(n, step + 31, 981)]
                self.assertEqual(holds(n, a, b, c, d), expected(n, a, b, c, d), (n, step))

    def test_first_two_exchanged(self):
        rows = [list(w) for w in itertools.product(range(2), repeat=4)]
        for a, b in itertools.combinations(rows, 2):
            for c, d in itertools.product(rows[::3], repeat=2):
                self.assertEqual(holds(2, a, b, c, d) == [1], holds(2, b, a, c, d) == [1])


class JustAsMuch(unittest.TestCase):
    def test_equal_on_both_sides_holds_and_one_more_does_not(self):
        for n in ALL_N:
            for s, t in itertools.product(range(2 ** n), repeat=2):
                b = only(n, t, 1)
                c, d = only(n, EITHER[s, t], 8), only(n, BOTH[s, t], 3)
                self.assertEqual(holds(n, only(n, s, 24), b, c, d), [1])
                self.assertEqual(holds(n, only(n, s, 25), b, c, d), [0, s, t])

    def test_largest_weights(self):
        for n in ALL_N:
            full = row(n, 1000)
            last = 2 ** n - 1
            self.assertEqual(holds(n, full, full, full, full), [1])
            self.assertEqual(holds(n, full, full, full, row(n, 999)), [0, 0, 0])
            self.assertEqual(holds(n, full, full, row(n, 1000, **{f"s{last}": 999}), full), [0, 0, last])


class Corners(unittest.TestCase):
    def test_all_weights_0(self):
        for n in ALL_N:
            nothing = row(n, 0)
            self.assertEqual(holds(n, nothing, nothing, nothing, nothing), [1])
            self.assertEqual(holds(n, nothing, row(n, 9), nothing, nothing), [1])
            self.assertEqual(holds(n, row(n, 9), nothing, nothing, nothing), [1])
            self.assertEqual(holds(n, row(n, 1), row(n, 1), nothing, row(n, 9)), [0, 0, 0])
            self.assertEqual(holds(n, row(n, 1), row(n, 1), row(n, 9), nothing), [0, 0, 0])

    def test_all_weights_1(self):
        for n in ALL_N:
            ones = row(n, 1)
            self.assertEqual(holds(n, ones, ones, ones, ones), [1])

    def test_the_same_four_times(self):
        for n in ALL_N:
            w = [3 ** len(members(s)) for s in range(2 ** n)]
            self.assertEqual(holds(n, w, w, w, w), [1])
            self.assertEqual(holds(n, w, list(w), list(w), list(w)), [1])
        self.assertEqual(holds(1, [5, 0], [5, 0], [5, 0], [5, 0]), [1])
        w = [0, 1, 1, 0]
        self.assertEqual(holds(2, w, w, w, w), [0, 1, 2])
        w = row(5, 2, s31=1)
        self.assertEqual(holds(5, w, w, w, w), [0, 1, 30])

    def test_a_fourth_one_that_is_just_enough(self):
        for n in ALL_N:
            a, b, c = spread(n, 5, 30), spread(n, 8, 30), [w + 1 for w in spread(n, 13, 40)]
            d = just_enough(n, a, b, c)
            self.assertLessEqual(max(d), 1000)
            self.assertEqual(holds(n, a, b, c, d), [1])
            for place in range(2 ** n):
                if d[place]:
                    less = list(d)
                    less[place] -= 1
                    first = pairs_not_so(n, a, b, c, less)[0]
                    self.assertEqual(BOTH[first], place)
                    self.assertEqual(holds(n, a, b, c, less), [0, *first])

    def test_n_of_1(self):
        self.assertEqual(holds(1, [1, 2], [3, 4], [3, 8], [1, 1]), [1])
        self.assertEqual(holds(1, [1, 2], [3, 4], [2, 8], [1, 1]), [0, 0, 0])
        self.assertEqual(holds(1, [1, 2], [3, 9], [3, 8], [1, 9]), [0, 0, 1])
        self.assertEqual(holds(1, [1, 3], [3, 4], [3, 8], [1, 9]), [0, 1, 0])
        self.assertEqual(holds(1, [1, 2], [3, 5], [3, 8], [1, 1]), [0, 1, 1])


class Refusals(unittest.TestCase):
    def assert_refused_in_each_place(self, n, wrong):
        for place in range(4):
            four = [row(n, 1) for unused in range(4)]
            four[place] = list(wrong)
            self.assertEqual(holds(n, *four), REFUSED, (n, place, wrong))
            # A pair of which it isn't so must not be told ahead of the refusal.
            four = [row(n, 1), row(n, 1), row(n, 0), row(n, 0)]
            four[place] = list(wrong)
            self.assertEqual(holds(n, *four), REFUSED, (n, place, wrong))

    def test_n_is_not_1_to_5(self):
        for n in (0, 6, 7, 32, 40, 64, LARGEST):
            for length in (0, 1, 2, 4, 6, 7, 8, 16, 32, 40):
                for weight in (0, 1, LARGEST):
                    w = [weight] * length
                    self.assertEqual(holds(n, w, w, w, w), REFUSED, (n, length, weight))

    def test_a_number_too_few_or_too_many(self):
        for n in ALL_N:
            for length in range(41):
                if length != 2 ** n:
                    self.assert_refused_in_each_place(n, [1] * length)

    def test_empty_lists(self):
        for n in ALL_N:
            self.assert_refused_in_each_place(n, [])
            self.assertEqual(holds(n, [], [], [], []), REFUSED)

    def test_lengths_that_even_out(self):
        self.assertEqual(holds(2, [1] * 3, [1] * 5, [1] * 4, [1] * 4), REFUSED)
        self.assertEqual(holds(2, [1] * 8, [1] * 8, [1] * 8, [1] * 8), REFUSED)

    def test_a_weight_above_1000(self):
        for n in ALL_N:
            for weight in (1001, LARGEST):
                for place in range(2 ** n):
                    self.assert_refused_in_each_place(n, row(n, 1, **{f"s{place}": weight}))

    def test_1000_and_0_are_weights(self):
        for n in ALL_N:
            for place in range(4):
                for weight in (0, 1000):
                    four = [row(n, 1) for unused in range(4)]
                    four[place] = row(n, weight)
                    self.assertEqual(holds(n, *four), expected(n, *four))
                    self.assertNotEqual(holds(n, *four), REFUSED)


CALLS = (
    (2, [1, 2, 3, 6], [1, 1, 1, 1], [1, 2, 3, 6], [1, 1, 1, 1]),
    (2, [0, 1, 1, 0], [0, 1, 1, 0], [0, 1, 1, 0], [0, 1, 1, 0]),
    (1, [1000, 1000], [1000, 1000], [1000, 999], [1000, 1000]),
    (5, row(5, 1), row(5, 1), row(5, 1), row(5, 1, s0=0)),
    (0, [1], [1], [1], [1]),
    (3, row(3, 1), row(3, 1), row(3, 1), row(3, 1001)),
    (3, row(3, 1), [], row(2, 1), row(4, 1)),
)
CALLS_ANSWERS = ([1], [0, 1, 2], [0, 0, 1], [0, 0, 0], REFUSED, REFUSED, REFUSED)


class NothingLeftBehind(LeavesNothing, unittest.TestCase):
    call = staticmethod(holds)
    names = ["n", "a", "b", "c", "d"]
    calls = CALLS
    answers = CALLS_ANSWERS

    def test_a_list_changed_between_calls_is_looked_at_anew(self):
        d = row(2, 1)
        self.assertEqual(holds(2, row(2, 1), row(2, 1), row(2, 1), d), [1])
        d[1] = 0
        self.assertEqual(holds(2, row(2, 1), row(2, 1), row(2, 1), d), [0, 1, 1])
        d[1] = 1001
        self.assertEqual(holds(2, row(2, 1), row(2, 1), row(2, 1), d), REFUSED)

    def test_arguments_by_name(self):
        self.assertEqual(holds(n=1, a=[0, 1], b=[1, 0], c=[1, 1], d=[0, 1]), [0, 1, 0])


if __name__ == "__main__":
    unittest.main()
