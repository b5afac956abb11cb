"""Two camps and their districts: who wins which, how few voters would turn it, and with how few votes one leads."""

NOT_AS_TOLD = -22
CANNOT_BE = -33
MOST_DISTRICTS = 7
MOST_VOTES = 1000


def won(land):
    if not land_is_as_told(land):
        return [NOT_AS_TOLD]
    gains = gains_of(0, land)
    return [gains.count(1), gains.count(-1), gains.count(0)]


def turn(k, land):
    if k > 1 or not land_is_as_told(land):
        return [NOT_AS_TOLD]
    return least_gone_over(k, land)


def swing(k, land):
    if k > 1 or not land_is_as_told(land):
        return [NOT_AS_TOLD]
    for over in range(MOST_VOTES + 1):
        gains = gains_of(k, swung(k, land, over))
        if sum(gains) > 0:
            return [over, gains.count(1), gains.count(-1)]
    return [CANNOT_BE]


def fewest(land):
    if not land_is_as_told(land):
        return [NOT_AS_TOLD]
    # Where all votes are camp 1's, camp 0 has afterwards just the votes that went over to it.
    return least_gone_over(0, all_for_camp_1(land))


def land_is_as_told(land):
    if len(land) % 2 == 1 or len(land) > 2 * MOST_DISTRICTS:
        return False
    return all([votes <= MOST_VOTES for votes in land])


# A lead is counted in districts, so that a tie won and a loss evened weigh the same.
def gain(own, other):
    if own > other:
        return 1
    if own < other:
        return -1
    return 0


def gains_of(k, land):
    return [gain(land[at + k], land[at + 1 - k]) for at in range(0, len(land), 2)]


def swung(k, land, over):
    after = list(land)
    for at in range(0, len(land), 2):
        going = min(over, land[at + 1 - k])
        after[at + k] = land[at + k] + going
        after[at + 1 - k] = land[at + 1 - k] - going
    return after


def all_for_camp_1(land):
    given = []
    for at in range(0, len(land), 2):
        given.extend([0, land[at] + land[at + 1]])
    return given


def least_gone_over(k, land):
    # Of each lead in districts that can be reached, the best way to it. A way is a list: how many go over in all,
    # then how many in each district. So lists compare as ways do: fewer in all, then fewer where they first differ.
    ways = {0: [0]}
    for at in range(0, len(land), 2):
        ways = with_district(ways, land[at + k], land[at + 1 - k])
    leading = [ways[lead] for lead in ways if lead > 0]
    if len(leading) == 0:
        return [CANNOT_BE]
    return min(leading)


def with_district(ways, own, other):
    longer = {}
    for lead in ways:
        for over in worth_trying(own, other):
            way = [ways[lead][0] + over] + ways[lead][1:] + [over]
            reached = lead + gain(own + over, other - over)
            # Later districts can go on alike from every way to one lead, so the best of them is all that is needed.
            if reached not in longer or way < longer[reached]:
                longer[reached] = way
    return longer


def worth_trying(own, other):
    if own > other:
        return [0]
    # Any other number could be lowered to one of these without losing the tie or the win it brings.
    half = (other - own) // 2
    return [over for over in [0, half, half + 1] if over <= other]
