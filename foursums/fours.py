"""The calls on four weights of sets of things.

A set of things is a whole number: thing v counts 2 to the power of v. So what
either of two sets has is their bitwise or, and what both have their bitwise and.
"""

NOT_AS_TOLD = -22
NO_ANSWER = -33
MOST_THINGS = 5
MOST_WEIGHT = 1000


def count_of_sets(n):
    """How many sets of n things there are."""
    return 1 << n


def are_weights(n, row):
    """Whether row has one number from 0 to 1000 for each set of n things."""
    if len(row) != count_of_sets(n):
        return False
    for weight in row:
        if weight > MOST_WEIGHT:
            return False
    return True


def are_all_weights(n, rows):
    """Whether n is 1 to 5 and each of the rows is weights of n things."""
    # n is looked at first: there may be far too many sets of it to count.
    if n < 1 or n > MOST_THINGS:
        return False
    for row in rows:
        if not are_weights(n, row):
            return False
    return True


def holds(n, a, b, c, d):
    """[1] if it holds, else 0 and the first two sets of which it isn't so; or a refusal alone."""
    if not are_all_weights(n, (a, b, c, d)):
        return [NOT_AS_TOLD]
    for s in range(count_of_sets(n)):
        for t in range(count_of_sets(n)):
            if a[s] * b[t] > c[s | t] * d[s & t]:
                return [0, s, t]
    return [1]


def divided_up(number, divisor):
    """The least whole number that times divisor is no less than number."""
    return (number + divisor - 1) // divisor


def need(n, a, b, c):
    """How many, then the least fourth ones; or a refusal alone."""
    if not are_all_weights(n, (a, b, c)):
        return [NOT_AS_TOLD]
    least = [0] * count_of_sets(n)
    for s in range(count_of_sets(n)):
        for t in range(count_of_sets(n)):
            wanted = a[s] * b[t]
            # Where nothing is wanted any fourth one is enough, even beside a c of 0.
            if wanted > 0:
                if c[s | t] == 0:
                    return [NO_ANSWER]
                least[s & t] = max(least[s & t], divided_up(wanted, c[s | t]))
    return [len(least)] + least


def fold(n, a):
    """How many, then the weights with the last thing forgotten; or a refusal alone."""
    if not are_all_weights(n, (a,)):
        return [NOT_AS_TOLD]
    if n == 1:
        return [NO_ANSWER]
    # The last thing counts as much as there are sets without it: it leads from each to its other one.
    last = count_of_sets(n - 1)
    return [last] + [a[s] + a[s + last] for s in range(last)]


def is_family(n, sets):
    """Whether sets are sets of n things, told rising, each once."""
    least = 0
    for s in sets:
        if s < least or s >= count_of_sets(n):
            return False
        least = s + 1
    return True


def joined(x, y):
    """What either has, of any set of x and any of y, each once."""
    there = {}
    for s in x:
        for t in y:
            there[s | t] = True
    return list(there)


def met(x, y):
    """What both have, of any set of x and any of y, each once."""
    there = {}
    for s in x:
        for t in y:
            there[s & t] = True
    return list(there)


def together(weights, family):
    """The weights of the family's sets, together."""
    return sum([weights[s] for s in family])


def held_against(first, second):
    """1 if first is no more than second, else 0; then both."""
    return [1 if first <= second else 0, first, second]


def sides(n, a, b, c, d, x, y):
    """1 if the first side is no more than the second one, else 0; then both sides; or a refusal alone."""
    if not are_all_weights(n, (a, b, c, d)):
        return [NOT_AS_TOLD]
    if not is_family(n, x) or not is_family(n, y):
        return [NOT_AS_TOLD]
    first = together(a, x) * together(b, y)
    second = together(c, joined(x, y)) * together(d, met(x, y))
    return held_against(first, second)


def gap(n, a, b, c, d):
    """1 if the first side, of all sets, is no more than the second one, else 0; then both; or a refusal alone."""
    if not are_all_weights(n, (a, b, c, d)):
        return [NOT_AS_TOLD]
    # All sets joined with all sets are all sets again, and so are those met: each row counts whole.
    return held_against(sum(a) * sum(b), sum(c) * sum(d))
