"""Tests of the document's second point, sentence by sentence, and of what it asks of all five calls."""

import itertools
import unittest

from foursums.fours import fold, gap, holds, need, sides
from words import ALL_N, LARGEST, NO_ANSWER, REFUSED, Untouched, families, family, members, pairs_not_so, row, spread


def small_fours():
    """At n of 1 all of 0 to 2; at n of 2 some of 0 and 1; then mixed ones with a fourth that is just enough."""
    for w in itertools.product(range(3), repeat=8):
        yield 1, [list(w[k:k + 2]) for k in (0, 2, 4, 6)]
    rows = [list(w) for w in itertools.product(range(2), repeat=4)]
    for four in itertools.islice(itertools.product(rows, repeat=4), 0, None, 19):
        yield 2, list(four)
    for n in ALL_N:
        for step in range(1, 15):
            a, b = spread(n, step, 20), spread(n, step + 7, 20)
            c = [w + 1 for w in spread(n, step + 100, 30)]
            yield n, [a, b, c, need(n, a, b, c)[1:]]
        w = [3 ** len(members(s)) for s in range(2 ** n)]
        yield n, [w, w, w, w]


def fours_that_hold():
    return [(n, four) for n, four in small_fours() if holds(n, *four) == [1]]


def pairs_of_families(n):
    if n == 1:
        return list(itertools.product(families(1), repeat=2))
    if n == 2:
        return list(itertools.product(families(2)[::2], families(2)[::3]))
    mixed = [(family(n, k, 2 + k % 4), family(n, 3 * k, 2 + k % 3)) for k in range(20)]
    return mixed + [([], mixed[1][1]), (mixed[1][0], []), ([], [])]


def with_one_less(weights):
    for place, weight in enumerate(weights):
        if weight:
            yield weights[:place] + [weight - 1] + weights[place + 1:]


class WhatHolds(unittest.TestCase):
    def test_the_small_cases_are_of_each_n_and_of_both_answers(self):
        told = {(n, holds(n, *four)[0]) for n, four in small_fours()}
        self.assertLessEqual({(1, 0), (2, 0)} | {(n, 1) for n in ALL_N}, told)

    def test_first_side_is_no_more_than_the_second_of_any_two_families(self):
        for n, four in fours_that_hold():
            self.assertEqual(gap(n, *four)[0], 1, four)
            for x, y in pairs_of_families(n):
                flag, first, second = sides(n, *four, x, y)
                self.assertEqual(flag, 1, (four, x, y))
                self.assertLessEqual(first, second)

    def test_where_it_does_not_hold_the_two_sets_told_are_families_of_which_it_is_more(self):
        for n, four in small_fours():
            told = holds(n, *four)
            if told != [1]:
                flag, first, second = sides(n, *four, told[1:2], told[2:])
                self.assertEqual(flag, 0, four)
                self.assertGreater(first, second)

    def test_with_the_last_thing_forgotten_it_holds_still(self):
        tried = 0
        for n, four in fours_that_hold():
            if n > 1:
                folded = [fold(n, w) for w in four]
                self.assertEqual({answer[0] for answer in folded}, {2 ** (n - 1)})
                folded = [answer[1:] for answer in folded]
                self.assertEqual(pairs_not_so(n - 1, *folded), [], four)
                self.assertEqual(holds(n - 1, *folded), [1], four)
                self.assertEqual(gap(n - 1, *folded), gap(n, *four), four)
                tried += 1
        self.assertGreater(tried, 500)

    def test_thing_by_thing_down_to_one(self):
        # What is above 1000 together would be weights no more.
        kept = [(n, four) for n, four in fours_that_hold() if max(sum(w) for w in four) <= 1000]
        self.assertEqual({n for n, four in kept}, set(ALL_N))
        for n, four in kept:
            both = gap(n, *four)
            for left in range(n, 1, -1):
                four = [fold(left, w)[1:] for w in four]
                self.assertEqual(holds(left - 1, *four), [1])
            self.assertEqual(gap(1, *four), both)
            self.assertEqual([fold(1, w) for w in four], [NO_ANSWER] * 4)

    def test_the_least_fourth_ones_are_enough(self):
        tried = 0
        for n, (a, b, c, unused) in small_fours():
            answer = need(n, a, b, c)
            if answer != NO_ANSWER:
                self.assertEqual(answer[0], 2 ** n)
                self.assertEqual(holds(n, a, b, c, answer[1:]), [1], (a, b, c))
                self.assertEqual(gap(n, a, b, c, answer[1:])[0], 1)
                tried += 1
        self.assertGreater(tried, 1000)

    def test_whatever_is_enough_is_nowhere_less(self):
        tried = 0
        for n, (a, b, c, d) in fours_that_hold():
            least = need(n, a, b, c)[1:]
            self.assertEqual(len(least), 2 ** n)
            self.assertTrue(all(w <= other for w, other in zip(least, d, strict=True)), (a, b, c, d))
            for less in with_one_less(least):
                self.assertEqual(holds(n, a, b, c, less)[0], 0, (a, b, c, less))
                tried += 1
        self.assertGreater(tried, 1000)

    def test_where_there_are_none_nothing_is_enough(self):
        tried = 0
        for n, (a, b, c, unused) in small_fours():
            if need(n, a, b, c) == NO_ANSWER:
                self.assertEqual(holds(n, a, b, c, row(n, 1000))[0], 0, (a, b, c))
                tried += 1
        self.assertGreater(tried, 1000)

    def test_with_the_first_two_exchanged_it_holds_just_as_well(self):
        for n, (a, b, c, d) in small_fours():
            self.assertEqual(holds(n, b, a, c, d)[0], holds(n, a, b, c, d)[0], (a, b, c, d))
            self.assertEqual(need(n, b, a, c), need(n, a, b, c))
            self.assertEqual(gap(n, b, a, c, d), gap(n, a, b, c, d))

    def test_with_the_first_two_and_the_families_exchanged_both_sides_stay(self):
        for n, (a, b, c, d) in itertools.islice(small_fours(), 0, None, 11):
            for x, y in pairs_of_families(n):
                self.assertEqual(sides(n, b, a, c, d, y, x), sides(n, a, b, c, d, x, y))


W = [1, 2, 3, 4]
ONES = row(3, 1)
TOO_MUCH = row(3, 1, s7=1001)
ANSWERED = (
    (holds, (2, W, W, W, W), [0, 1, 2]),
    (holds, (3, ONES, ONES, ONES, ONES), [1]),
    (need, (2, W, W, W), [4, 2, 2, 3, 4]),
    (fold, (2, W), [2, 4, 6]),
    (sides, (2, W, W, W, W, [1], [2]), [0, 6, 4]),
    (sides, (3, ONES, ONES, ONES, ONES, [1, 2], []), [1, 0, 0]),
    (gap, (2, W, W, W, W), [1, 100, 100]),
)
REFUSALS = (
    (holds, (LARGEST, W, W, W, W), REFUSED),
    (need, (0, [1], [1], [1]), REFUSED),
    (fold, (LARGEST, W), REFUSED),
    (sides, (LARGEST, W, W, W, W, [], []), REFUSED),
    (gap, (LARGEST, W, W, W, W), REFUSED),
    (holds, (3, ONES, ONES, ONES, TOO_MUCH), REFUSED),
    (need, (3, ONES, ONES, TOO_MUCH), REFUSED),
    (fold, (3, TOO_MUCH), REFUSED),
    (sides, (3, ONES, ONES, ONES, TOO_MUCH, [0], [1]), REFUSED),
    (sides, (3, ONES, ONES, ONES, ONES, [1, 0], [1]), REFUSED),
    (sides, (3, ONES, ONES, ONES, ONES, [0], [8]), REFUSED),
    (gap, (3, ONES, ONES, ONES, TOO_MUCH), REFUSED),
    (need, (1, [1, 1], [1, 1], [1, 0]), NO_ANSWER),
    (fold, (1, [1, 1]), NO_ANSWER),
)


class AllFive(unittest.TestCase):
    def test_each_of_the_five_is_here(self):
        for told in (ANSWERED, REFUSALS):
            self.assertEqual({call for call, handed, answer in told}, {holds, need, fold, sides, gap})

    def test_lists_stay_as_they_were(self):
        for call, (n, *lists), answer in ANSWERED + REFUSALS:
            handed = [list(w) for w in lists]
            self.assertEqual(call(n, *handed), answer, call)
            self.assertEqual(handed, lists, call)
            self.assertEqual(call(n, *[Untouched(w) for w in lists]), answer, call)

    def test_a_second_call_answers_the_same_whichever_stood_between(self):
        for first, between in itertools.product(ANSWERED + REFUSALS, repeat=2):
            for call, handed, answer in (first, first, between, first):
                self.assertEqual(call(*handed), answer, call)

    def test_a_refusal_is_its_number_alone(self):
        for call, handed, answer in REFUSALS:
            told = call(*handed)
            self.assertEqual((told, len(told)), (answer, 1), call)
            self.assertIs(type(told[0]), int)

    def test_no_other_number_is_below_0(self):
        for call, handed, unused in ANSWERED:
            self.assertGreaterEqual(min(call(*handed)), 0, call)
        for n, four in itertools.islice(small_fours(), 0, None, 7):
            self.assertGreaterEqual(min(holds(n, *four) + gap(n, *four)), 0)


if __name__ == "__main__":
    unittest.main()
