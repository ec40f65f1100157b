"""Tests of foursums.fours.sides against the document's words."""

import itertools
import unittest

from foursums.fours import holds, need, sides
from words import (
    ALL_N, BOTH, EITHER, LARGEST, REFUSED, LeavesNothing, both_sides, families, family, held, members, only, row,
    spread,
)


def all_sets(n):
    return list(range(2 ** n))


def expected(a, b, c, d, x, y):
    return held(*both_sides(a, b, c, d, x, y))


class Answers(unittest.TestCase):
    def test_n_of_1_by_hand(self):
        four = [2, 3], [5, 7], [11, 13], [17, 19]
        self.assertEqual(sides(1, *four, [0], [0]), [1, 10, 187])
        # Of 0 and 1 either has 1 and both have nothing: 13*17.
        self.assertEqual(sides(1, *four, [0], [1]), [1, 14, 221])
        self.assertEqual(sides(1, *four, [1], [0]), [1, 15, 221])
        self.assertEqual(sides(1, *four, [1], [1]), [1, 21, 247])
        self.assertEqual(sides(1, *four, [0, 1], [0]), [1, 25, 408])
        self.assertEqual(sides(1, *four, [0, 1], [1]), [1, 35, 468])
        self.assertEqual(sides(1, *four, [0, 1], [0, 1]), [1, 60, 864])

    def test_first_side_is_more(self):
        self.assertEqual(sides(1, [20, 3], [10, 7], [11, 13], [17, 19], [0], [0]), [0, 200, 187])
        self.assertEqual(sides(1, [0, 9], [9, 0], [9, 0], [0, 9], [1], [0]), [0, 81, 0])
        self.assertEqual(sides(2, [0, 1, 1, 0], [0, 1, 1, 0], [0, 1, 1, 0], [0, 1, 1, 0], [1], [2]), [0, 1, 0])
        self.assertEqual(sides(2, [1, 2, 3, 4], [4, 3, 2, 1], [1, 1, 1, 1], [2, 2, 2, 2], [1, 3], [0, 2]), [0, 36, 8])

    def test_both_sides_alike(self):
        self.assertEqual(sides(1, [17, 0], [11, 0], [11, 13], [17, 19], [0], [0]), [1, 187, 187])
        self.assertEqual(sides(1, [17, 0], [12, 0], [11, 13], [17, 19], [0], [0]), [0, 204, 187])
        w = [0, 1, 1, 0]
        self.assertEqual(sides(2, w, w, w, w, [1, 2], [1, 2]), [1, 4, 4])
        w = [1, 2, 3, 6]
        self.assertEqual(sides(2, w, w, w, w, [1], [2]), [1, 6, 6])

    def test_one_more_or_less_beside_both_alike(self):
        for n in ALL_N:
            for s, t in itertools.product(range(2 ** n), repeat=2):
                b, c, d = only(n, t, 1), only(n, EITHER[s, t], 8), only(n, BOTH[s, t], 3)
                self.assertEqual(sides(n, only(n, s, 23), b, c, d, [s], [t]), [1, 23, 24])
                self.assertEqual(sides(n, only(n, s, 24), b, c, d, [s], [t]), [1, 24, 24])
                self.assertEqual(sides(n, only(n, s, 25), b, c, d, [s], [t]), [0, 25, 24])

    def test_n_of_2_by_hand(self):
        four = [1, 2, 3, 4], [1, 2, 3, 4], [1, 10, 100, 1000], [1, 10, 100, 1000]
        # Joined 2 and 3, met 0 and 1: 1100*11.
        self.assertEqual(sides(2, *four, [0, 1], [2, 3]), [1, 21, 12100])
        self.assertEqual(sides(2, *four, [1], [2]), [1, 6, 1000])
        self.assertEqual(sides(2, *four, [0, 3], [1]), [1, 10, 11110])

    def test_n_of_3_by_hand(self):
        powers = [1, 2, 4, 8, 16, 32, 64, 128]
        a, b = [0, 1, 2, 0, 3, 0, 0, 0], [0, 0, 0, 4, 0, 5, 6, 0]
        # Joined 3, 5, 6 and 7, so 232; met 0, 1, 2 and 4, so 23.
        self.assertEqual(sides(3, a, b, powers, powers, [1, 2, 4], [3, 5, 6]), [1, 90, 5336])

    def test_sets_outside_the_families_do_not_count(self):
        for n in ALL_N:
            for s, t in itertools.product(range(2 ** n), repeat=2):
                a, b = row(n, 1000, **{f"s{s}": 2}), row(n, 1000, **{f"s{t}": 3})
                c, d = row(n, 1000, **{f"s{EITHER[s, t]}": 5}), row(n, 1000, **{f"s{BOTH[s, t]}": 7})
                self.assertEqual(sides(n, a, b, c, d, [s], [t]), [1, 6, 35])

    def test_a_goes_with_x_and_b_with_y(self):
        a, b = only(2, 1, 2), only(2, 2, 3)
        self.assertEqual(sides(2, a, b, row(2, 1), row(2, 1), [1], [2]), [0, 6, 1])
        self.assertEqual(sides(2, a, b, row(2, 1), row(2, 1), [2], [1]), [1, 0, 1])

    def test_c_goes_with_what_is_joined_and_d_with_what_is_met(self):
        self.assertEqual(sides(2, row(2, 1), row(2, 1), only(2, 3, 2), only(2, 0, 3), [1], [2]), [1, 1, 6])
        self.assertEqual(sides(2, row(2, 1), row(2, 1), only(2, 0, 2), only(2, 3, 3), [1], [2]), [0, 1, 0])

    def test_all_families_at_n_of_1_and_2(self):
        for n in (1, 2):
            four = spread(n, 3, 1001), spread(n, 4, 1001), spread(n, 5, 1001), spread(n, 6, 1001)
            for x, y in itertools.product(families(n), repeat=2):
                self.assertEqual(sides(n, *four, x, y), expected(*four, x, y), (x, y))

    def test_many_families_at_n_of_3(self):
        four = spread(3, 3, 1001), spread(3, 4, 1001), spread(3, 5, 1001), spread(3, 6, 1001)
        for x, y in itertools.product(families(3)[::3], families(3)[::2]):
            self.assertEqual(sides(3, *four, x, y), expected(*four, x, y), (x, y))

    def test_mixed_families_and_weights_up_to_n_of_5(self):
        told = set()
        for n in ALL_N:
            for step in range(1, 40):
                for of in (2, 3, 5):
                    x, y = family(n, step, of), family(n, step + 9, of + step % 3)
                    a, b = spread(n, step, 1001), spread(n, step + 7, 901)
                    four = a, b, spread(n, step + 3, 601), spread(n, step, 301)
                    answer = sides(n, *four, x, y)
                    self.assertEqual(answer, expected(*four, x, y), (n, step, of))
                    told.add((n, answer[0]))
        self.assertEqual(told, set(itertools.product(ALL_N, (0, 1))))

    def test_first_two_exchanged_together_with_the_families(self):
        a, b, c, d = spread(3, 3, 1001), spread(3, 4, 1001), spread(3, 5, 1001), spread(3, 6, 1001)
        for x, y in itertools.product(families(3)[::7], families(3)[::5]):
            self.assertEqual(sides(3, a, b, c, d, x, y), sides(3, b, a, c, d, y, x))


class OnceAlone(unittest.TestCase):
    def test_joined_by_several_pairs(self):
        # 3 is joined of 1 and 2, of 1 and 3, of 2 and 1, of 2 and 3.
        ones = row(2, 1)
        self.assertEqual(sides(2, ones, ones, only(2, 3, 10), ones, [1, 2], [1, 2, 3]), [1, 6, 30])
        self.assertEqual(sides(2, ones, ones, ones, ones, [1, 2], [3]), [1, 2, 2])
        self.assertEqual(sides(2, ones, ones, only(2, 3, 1), only(2, 3, 1), [0, 1, 2, 3], [3]), [0, 4, 1])

    def test_met_by_several_pairs(self):
        # The empty set is met of 1 and 2, and of 2 and 1.
        ones = row(2, 1)
        self.assertEqual(sides(2, ones, ones, ones, only(2, 0, 10), [1, 2], [1, 2]), [1, 4, 30])
        self.assertEqual(sides(2, ones, ones, ones, ones, [1, 2], [0]), [1, 2, 2])
        self.assertEqual(sides(2, ones, ones, only(2, 0, 1), only(2, 0, 1), [0], [0, 1, 2, 3]), [0, 4, 1])

    def test_the_full_set_beside_all_sets(self):
        for n in ALL_N:
            ones, last = row(n, 1), 2 ** n - 1
            # Joined to the full set alone, met to all sets.
            self.assertEqual(sides(n, ones, ones, row(n, 3), row(n, 5), all_sets(n), [last]), [1, 2 ** n, 15 * 2 ** n])
            full = only(n, last, 1)
            self.assertEqual(sides(n, ones, ones, full, full, all_sets(n), [last]), [0, 2 ** n, 1])

    def test_the_empty_set_beside_all_sets(self):
        for n in ALL_N:
            ones = row(n, 1)
            self.assertEqual(sides(n, ones, ones, row(n, 3), row(n, 5), [0], all_sets(n)), [1, 2 ** n, 15 * 2 ** n])
            self.assertEqual(sides(n, ones, ones, only(n, 0, 1), only(n, 0, 1), [0], all_sets(n)), [0, 2 ** n, 1])

    def test_a_set_in_both_families_counts_on_each_side_for_itself(self):
        four = [1, 2, 3, 4], [5, 6, 7, 8], [9, 10, 11, 12], [13, 14, 15, 16]
        self.assertEqual(sides(2, *four, [2], [2]), [1, 21, 165])


class NoMoreWhereItHolds(unittest.TestCase):
    """If it holds of any two sets the first side is no more than the second one, of any two families."""

    def assert_no_more(self, n, four, pairs):
        self.assertEqual(holds(n, *four), [1])
        for x, y in pairs:
            answer = sides(n, *four, x, y)
            self.assertEqual(answer, [1, *both_sides(*four, x, y)], (four, x, y))
            self.assertLessEqual(answer[1], answer[2])

    def test_all_small_weights_at_n_of_1(self):
        pairs = list(itertools.product(families(1), repeat=2))
        tried = 0
        for w in itertools.product(range(3), repeat=8):
            four = [list(w[k:k + 2]) for k in (0, 2, 4, 6)]
            if holds(1, *four) == [1]:
                self.assert_no_more(1, four, pairs)
                tried += 1
        self.assertGreater(tried, 1000)

    def test_weights_of_0_and_1_at_n_of_2(self):
        rows = [list(w) for w in itertools.product(range(2), repeat=4)]
        pairs = list(itertools.product(families(2), repeat=2))
        tried = 0
        for k, four in enumerate(itertools.product(rows, repeat=4)):
            if k % 37 == 0 and holds(2, *four) == [1]:
                self.assert_no_more(2, four, pairs)
                tried += 1
        self.assertGreater(tried, 100)

    def test_a_fourth_one_that_is_just_enough(self):
        for n in ALL_N:
            for step in range(1, 12):
                a, b = spread(n, step, 30), spread(n, step + 7, 30)
                c = [w + 1 for w in spread(n, step + 100, 40)]
                d = need(n, a, b, c)[1:]
                pairs = [
                    (family(n, step + k, 2 + k % 4), family(n, 3 * step + k, 2 + k % 3)) for k in range(20)
                ]
                self.assert_no_more(n, (a, b, c, d), pairs + [(all_sets(n), all_sets(n))])

    def test_the_same_four_times(self):
        for n in ALL_N:
            w = [3 ** len(members(s)) for s in range(2 ** n)]
            pairs = [(family(n, k, 2), family(n, 3 * k, 3)) for k in range(20)]
            self.assert_no_more(n, (w, w, w, w), pairs)

    def test_where_it_does_not_hold_some_two_families_have_more(self):
        rows = [list(w) for w in itertools.product(range(2), repeat=4)]
        for four in itertools.islice(itertools.product(rows, repeat=4), 0, None, 23):
            told = holds(2, *four)
            if told != [1]:
                self.assertEqual(sides(2, *four, told[1:2], told[2:])[0], 0, four)


class Corners(unittest.TestCase):
    def test_all_weights_0(self):
        for n in ALL_N:
            nothing, nines = row(n, 0), row(n, 9)
            for x, y in itertools.product(([], [0], [1], all_sets(n)), repeat=2):
                self.assertEqual(sides(n, nothing, nothing, nothing, nothing, x, y), [1, 0, 0])
            self.assertEqual(sides(n, nines, nothing, nothing, nines, all_sets(n), [1]), [1, 0, 0])
            self.assertEqual(sides(n, nothing, nines, nines, nothing, all_sets(n), [1]), [1, 0, 0])
            self.assertEqual(sides(n, nines, nines, nothing, nines, [0], [1]), [0, 81, 0])
            self.assertEqual(sides(n, nines, nines, nines, nothing, [0], [1]), [0, 81, 0])
            self.assertEqual(sides(n, nothing, nothing, nines, nines, [0], [1]), [1, 0, 81])

    def test_all_weights_1(self):
        # Two families have no more pairs than there are sets joined times sets met.
        for n in ALL_N:
            ones = row(n, 1)
            self.assertEqual(sides(n, ones, ones, ones, ones, [0], [1]), [1, 1, 1])
            self.assertEqual(sides(n, ones, ones, ones, ones, [0, 1], [0, 1]), [1, 4, 4])
        ones = row(2, 1)
        self.assertEqual(sides(2, ones, ones, ones, ones, [1, 2], [1, 2]), [1, 4, 9])

    def test_a_family_without_sets(self):
        for n in ALL_N:
            for weight in (0, 1, 1000):
                four = [row(n, weight)] * 4
                self.assertEqual(sides(n, *four, [], []), [1, 0, 0])
                for s in range(2 ** n):
                    self.assertEqual(sides(n, *four, [], [s]), [1, 0, 0])
                    self.assertEqual(sides(n, *four, [s], []), [1, 0, 0])
                self.assertEqual(sides(n, *four, [], all_sets(n)), [1, 0, 0])
                self.assertEqual(sides(n, *four, all_sets(n), []), [1, 0, 0])

    def test_families_of_all_sets(self):
        for n in ALL_N:
            a, b, c, d = spread(n, 3, 1001), spread(n, 4, 1001), spread(n, 5, 1001), spread(n, 6, 1001)
            told = held(sum(a) * sum(b), sum(c) * sum(d))
            self.assertEqual(sides(n, a, b, c, d, all_sets(n), all_sets(n)), told)
        rising = list(range(32))
        self.assertEqual(sides(5, rising, rising, rising, row(5, 15), all_sets(5), all_sets(5)), [0, 246016, 238080])

    def test_largest_weights(self):
        for n in ALL_N:
            full = row(n, 1000)
            most = (1000 * 2 ** n) ** 2
            self.assertEqual(sides(n, full, full, full, full, all_sets(n), all_sets(n)), [1, most, most])
            less = row(n, 1000, s1=999)
            self.assertEqual(
                sides(n, full, full, full, less, all_sets(n), all_sets(n)), [0, most, most - 1000 * 2 ** n],
            )

    def test_the_same_four_times(self):
        w = [1, 2, 3, 4]
        self.assertEqual(sides(2, w, w, w, w, [1], [2]), [0, 6, 4])
        self.assertEqual(sides(2, w, w, w, w, [1, 2], [1, 2]), [1, 25, 54])
        self.assertEqual(sides(2, list(w), list(w), list(w), list(w), [1, 2], [1, 2]), [1, 25, 54])

    def test_a_fourth_one_that_is_just_enough(self):
        a, b, c = [2, 5], [3, 7], [1, 4]
        # Of 1 and 0: 15/4, of 0 and 1: 14/4, of 0 and 0: 6; of 1 and 1: 35/4.
        self.assertEqual(sides(1, a, b, c, [6, 9], [1], [1]), [1, 35, 36])
        self.assertEqual(sides(1, a, b, c, [6, 8], [1], [1]), [0, 35, 32])
        self.assertEqual(sides(1, a, b, c, [6, 9], [0], [0]), [1, 6, 6])
        self.assertEqual(sides(1, a, b, c, [5, 9], [0], [0]), [0, 6, 5])
        self.assertEqual(sides(1, a, b, c, [6, 9], [0, 1], [0, 1]), [1, 70, 75])


class Refusals(unittest.TestCase):
    def assert_refused_in_each_place(self, n, wrong):
        for place in range(4):
            four = [row(n, 1) for unused in range(4)]
            four[place] = list(wrong)
            # A family without sets reads no weight, yet they are to be weights.
            for x, y in (([0], [1]), ([], []), ([0], []), ([], [0]), (all_sets(n), all_sets(n))):
                self.assertEqual(sides(n, *four, x, y), REFUSED, (n, place, wrong, x, y))

    def assert_no_family(self, n, wrong):
        for weight in (0, 1):
            four = [row(n, weight)] * 4
            for other in ([], [0], [1], all_sets(n), wrong):
                self.assertEqual(sides(n, *four, list(wrong), other), REFUSED, (n, wrong, other))
                self.assertEqual(sides(n, *four, other, list(wrong)), REFUSED, (n, other, wrong))

    def test_n_is_not_1_to_5(self):
        for n in (0, 6, 7, 32, 40, 64, LARGEST):
            for length in (0, 1, 2, 4, 6, 7, 8, 16, 32, 40):
                for weight in (0, 1, LARGEST):
                    w = [weight] * length
                    for x in ([], [0], [0, 1], [LARGEST]):
                        self.assertEqual(sides(n, w, w, w, w, x, x), REFUSED, (n, length, weight, x))

    def test_weights_too_short_and_too_long(self):
        for n in ALL_N:
            for length in range(41):
                if length != 2 ** n:
                    self.assert_refused_in_each_place(n, [1] * length)

    def test_empty_weights(self):
        for n in ALL_N:
            self.assert_refused_in_each_place(n, [])
            self.assertEqual(sides(n, [], [], [], [], [], []), REFUSED)

    def test_a_weight_above_1000(self):
        for n in ALL_N:
            for weight in (1001, LARGEST):
                for place in range(2 ** n):
                    self.assert_refused_in_each_place(n, row(n, 1, **{f"s{place}": weight}))

    def test_1000_and_0_are_weights(self):
        for n in ALL_N:
            for place in range(4):
                for weight in (0, 1000):
                    four = [row(n, 1) for unused in range(4)]
                    four[place] = row(n, weight)
                    self.assertEqual(sides(n, *four, [0], [1]), expected(*four, [0], [1]))

    def test_a_number_that_is_no_set(self):
        for n in ALL_N:
            for number in (2 ** n, 2 ** n + 1, 2 ** (n + 1), 1000, 2 ** 31, LARGEST):
                self.assert_no_family(n, [number])
                self.assert_no_family(n, [0, number])
                self.assert_no_family(n, [number, 0])
                self.assert_no_family(n, all_sets(n) + [number])
            self.assert_no_family(n, list(range(40)))

    def test_the_same_set_twice(self):
        for n in ALL_N:
            for s in range(2 ** n):
                self.assert_no_family(n, [s, s])
                self.assert_no_family(n, sorted(all_sets(n) + [s]))
                self.assert_no_family(n, [s] * 40)

    def test_not_rising(self):
        for n in ALL_N:
            for s, t in itertools.combinations(range(2 ** n), 2):
                self.assert_no_family(n, [t, s])
                self.assert_no_family(n, [s, t, s])
            self.assert_no_family(n, all_sets(n)[::-1])
            for s in range(2 ** n - 1):
                sets = all_sets(n)
                sets[s], sets[s + 1] = sets[s + 1], sets[s]
                self.assert_no_family(n, sets)

    def test_each_rising_family_is_one(self):
        for n in (1, 2, 3):
            four = [row(n, 1)] * 4
            for x in families(n):
                self.assertEqual(sides(n, *four, x, [0]), [1, len(x), len(x)])
                self.assertEqual(sides(n, *four, [0], x), [1, len(x), len(x)])


class NothingLeftBehind(LeavesNothing, unittest.TestCase):
    call = staticmethod(sides)
    names = ["n", "a", "b", "c", "d", "x", "y"]
    calls = (
        (1, [2, 3], [5, 7], [11, 13], [17, 19], [0, 1], [1]),
        (2, [1, 2, 3, 4], [1, 2, 3, 4], [1, 10, 100, 1000], [1, 10, 100, 1000], [0, 1], [2, 3]),
        (2, [0, 1, 1, 0], [0, 1, 1, 0], [0, 1, 1, 0], [0, 1, 1, 0], [1], [2]),
        (5, row(5, 1000), row(5, 1000), row(5, 1000), row(5, 1000), all_sets(5), all_sets(5)),
        (3, row(3, 1), row(3, 1), row(3, 1), row(3, 1), [], [7]),
        (0, [1], [1], [1], [1], [0], [0]),
        (3, row(3, 1), row(3, 1), row(3, 1), row(3, 1001), [0], [0]),
        (3, row(3, 1), row(3, 1), row(3, 1), row(3, 1), [3, 1, 2], [0]),
        (3, row(3, 1), row(3, 1), row(3, 1), row(3, 1), [0], [1, 1, 8]),
    )
    answers = (
        [1, 35, 468], [1, 21, 12100], [0, 1, 0], [1, 1024000000, 1024000000], [1, 0, 0],
        REFUSED, REFUSED, REFUSED, REFUSED,
    )

    def test_a_list_changed_between_calls_is_looked_at_anew(self):
        ones = row(2, 1)
        x = [1, 2]
        self.assertEqual(sides(2, ones, ones, ones, ones, x, [1, 2]), [1, 4, 9])
        x.append(3)
        self.assertEqual(sides(2, ones, ones, ones, ones, x, [1, 2]), [1, 6, 9])
        x.append(0)
        self.assertEqual(sides(2, ones, ones, ones, ones, x, [1, 2]), REFUSED)

    def test_one_list_handed_in_for_all(self):
        w = [0, 1]
        self.assertEqual(sides(1, w, w, w, w, w, w), [1, 1, 1])
        self.assertEqual(w, [0, 1])

    def test_arguments_by_name(self):
        told = sides(n=1, a=[2, 3], b=[5, 7], c=[11, 13], d=[17, 19], x=[0, 1], y=[1])
        self.assertEqual(told, [1, 35, 468])


if __name__ == "__main__":
    unittest.main()
