"""Two camps and their districts: who wins which, and how few voters would turn it."""

NOT_AS_TOLD = -22
CANNOT_BE = -33
MOST_DISTRICTS = 7
MOST_VOTES = 1000


def won(land):
    if not land_is_as_told(land):
        return [NOT_AS_TOLD]
    gains = [gain(land[at], land[at + 1]) for at in range(0, len(land), 2)]
    return [gains.count(1), gains.count(-1), gains.count(0)]


def turn(k, land):
    if k > 1 or not land_is_as_told(land):
        return [NOT_AS_TOLD]
    # Of each lead in districts that can be reached, the best way to it. A way is a list: how many go over in all,
    # then how many in each district. So lists compare as ways do: fewer in all, then fewer where they first differ.
    ways = {0: [0]}
    for at in range(0, len(land), 2):
        ways = with_district(ways, land[at + k], land[at + 1 - k])
    leading = [ways[lead] for lead in ways if lead > 0]
    if len(leading) == 0:
        return [CANNOT_BE]
    return min(leading)


def land_is_as_told(land):
    if len(land) % 2 == 1 or len(land) > 2 * MOST_DISTRICTS:
        return False
    return all([votes <= MOST_VOTES for votes in land])


# A lead is counted in districts, so that a tie won and a loss evened weigh the same.
def gain(own, other):
    if own > other:
        return 1
    if own < other:
        return -1
    return 0


def with_district(ways, own, other):
    longer = {}
    for lead in ways:
        for over in worth_trying(own, other):
            way = [ways[lead][0] + over] + ways[lead][1:] + [over]
            reached = lead + gain(own + over, other - over)
            # Later districts can go on alike from every way to one lead, so the best of them is all that is needed.
            if reached not in longer or way < longer[reached]:
                longer[reached] = way
    return longer


def worth_trying(own, other):
    if own > other:
        return [0]
    # Any other number could be lowered to one of these without losing the tie or the win it brings.
    half = (other - own) // 2
    return [over for over in [0, half, half + 1] if over <= other]
