"""What the tests share: the document's words, told without the program's own code."""

import ast
import contextlib
import inspect
import io
import itertools

import foursums.fours

REFUSED = [-22]
NO_ANSWER = [-33]
LARGEST = 4294967295
ALL_N = (1, 2, 3, 4, 5)


def members(number):
    return frozenset(v for v in range(5) if number // 2 ** v % 2)


def number_of(things):
    return sum(2 ** v for v in things)


# Told by Python's sets, so that it doesn't share the program's way of reckoning.
EITHER = {(s, t): number_of(members(s) | members(t)) for s in range(32) for t in range(32)}
BOTH = {(s, t): number_of(members(s) & members(t)) for s in range(32) for t in range(32)}


def pairs_not_so(n, a, b, c, d):
    sets = range(2 ** n)
    return [
        (s, t) for s in sets for t in sets
        if a[s] * b[t] > c[EITHER[s, t]] * d[BOTH[s, t]]
    ]


def both_sides(a, b, c, d, x, y):
    either = {EITHER[pair] for pair in itertools.product(x, y)}
    both = {BOTH[pair] for pair in itertools.product(x, y)}
    first = sum(a[s] for s in x) * sum(b[t] for t in y)
    return first, sum(c[s] for s in either) * sum(d[s] for s in both)


def held(first, second):
    return [int(first <= second), first, second]


def families(n):
    """All families of sets of n things, those with few sets first."""
    return [list(x) for size in range(2 ** n + 1) for x in itertools.combinations(range(2 ** n), size)]


def family(n, step, of):
    """A family that looks mixed but is the same each time: about one set of that many."""
    return [s for s in range(2 ** n) if (step * (s + 5) ** 2 + 7 * s) % 9973 % of == 0]


def row(n, weight, **changed):
    """The same weight for each set, but for those told as s3=7."""
    weights = [weight] * 2 ** n
    for name, other in changed.items():
        weights[int(name[1:])] = other
    return weights


def only(n, place, weight):
    weights = [0] * 2 ** n
    weights[place] = weight
    return weights


def spread(n, step, below):
    """Weights that look mixed but are the same each time."""
    return [(step * (place + 3) ** 2 + 11 * place) % 9973 % below for place in range(2 ** n)]


class Untouched(list):
    """A list that can't be changed, not for a while either."""

    def refuse(self, *unused):
        raise AssertionError("a list that was handed in is changed")

    append = clear = extend = insert = pop = remove = reverse = sort = refuse
    __setitem__ = __delitem__ = __iadd__ = __imul__ = refuse


class LeavesNothing:
    """What is asked of each call beside its answers.

    A test case that draws from it tells the call, its arguments' names, some calls and their answers.
    """

    def test_lists_stay_as_they_were(self):
        for (n, *lists), answer in zip(self.calls, self.answers, strict=True):
            handed = [list(w) for w in lists]
            self.assertEqual(self.call(n, *handed), answer)
            self.assertEqual(handed, lists)

    def test_lists_are_not_changed_for_a_while(self):
        for (n, *lists), answer in zip(self.calls, self.answers, strict=True):
            self.assertEqual(self.call(n, *[Untouched(w) for w in lists]), answer)

    def test_a_second_call_answers_like_the_first(self):
        for first, second in itertools.product(range(len(self.calls)), repeat=2):
            for k in (first, second, first, first):
                self.assertEqual(self.call(*self.calls[k]), self.answers[k])

    def test_an_answer_that_is_changed_changes_no_later_one(self):
        for handed, answer in zip(self.calls, self.answers, strict=True):
            self.call(*handed).append(7)
            self.call(*handed).clear()
            self.assertEqual(self.call(*handed), answer)

    def test_an_answer_is_a_list_of_plain_whole_numbers(self):
        for handed in self.calls:
            answer = self.call(*handed)
            self.assertIs(type(answer), list)
            self.assertEqual({type(number) for number in answer}, {int})

    def test_nothing_is_printed(self):
        out, err = io.StringIO(), io.StringIO()
        with contextlib.redirect_stdout(out), contextlib.redirect_stderr(err):
            for handed in self.calls:
                self.call(*handed)
        self.assertEqual((out.getvalue(), err.getvalue()), ("", ""))

    def test_nothing_is_imported(self):
        tree = ast.parse(inspect.getsource(foursums.fours))
        imports = [node for node in ast.walk(tree) if isinstance(node, (ast.Import, ast.ImportFrom))]
        self.assertEqual(imports, [])

    def test_arguments_are_called_as_told(self):
        self.assertEqual(list(inspect.signature(self.call).parameters), self.names)
