"""What the tests hold the program against: the document's words, counted out plainly and apart from the program."""

import random

GREATEST = 4294967295


def swapped(land):
    """land, with the camps called otherwise."""
    return [land[at + 1 - at % 2 * 2] for at in range(len(land))]


def after(k, land, way):
    """land, when in each district as many as way says have gone over to camp k."""
    moved = list(land)
    for district, over in enumerate(way):
        moved[2 * district + k] += over
        moved[2 * district + 1 - k] -= over
    return moved


def wins(land):
    """How many districts camp 0 wins, and how many camp 1."""
    counts = [0, 0]
    for at in range(0, len(land), 2):
        if land[at] > land[at + 1]:
            counts[0] += 1
        if land[at + 1] > land[at]:
            counts[1] += 1
    return counts


def leads(k, land):
    counts = wins(land)
    return counts[k] > counts[1 - k]


def drawn_lands():
    draw = random.Random(11)
    return [[draw.randint(0, most) for place in range(2 * districts)]
            for districts in range(8) for most in (1, 3, 50, 1000) for count in range(20)]
