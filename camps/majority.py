"""Two camps and their districts: who wins which, and how few voters would turn it."""

NOT_AS_TOLD = -22
CANNOT_BE = -33
MOST_DISTRICTS = 7
MOST_VOTES = 1000


def won(land):
    """How many districts camp 0 wins, how many camp 1 does, how many neither."""
    if not land_is_as_told(land):
        return [NOT_AS_TOLD]
    gains = [gain(land[at], land[at + 1]) for at in range(0, len(land), 2)]
    return [gains.count(1), gains.count(-1), gains.count(0)]


def turn(k, land):
    """How few voters must go over to camp k so that it leads; then how many in each district."""
    if k > 1 or not land_is_as_told(land):
        return [NOT_AS_TOLD]
    ways = {0: [0]}
    for at in range(0, len(land), 2):
        ways = with_district(ways, land[at + k], land[at + 1 - k])
    leading = [ways[lead] for lead in ways if lead > 0]
    if len(leading) == 0:
        return [CANNOT_BE]
    return min(leading)


def land_is_as_told(land):
    """Whether land has two numbers of each district, not too many districts, not too many votes."""
    if len(land) % 2 == 1 or len(land) > 2 * MOST_DISTRICTS:
        return False
    return all([votes <= MOST_VOTES for votes in land])


def gain(own, other):
    """What a district adds to the lead of the camp that has own votes there."""
    if own > other:
        return 1
    if own < other:
        return -1
    return 0


def with_district(ways, own, other):
    """The best way to each lead, one district further on.

    A way is a list: how many go over in all, then how many in each district so far.
    """
    longer = {}
    for lead in ways:
        for over in worth_trying(own, other):
            way = [ways[lead][0] + over] + ways[lead][1:] + [over]
            reached = lead + gain(own + over, other - over)
            # Later districts can go on alike from every way to one lead, so the least is all that is needed:
            # lists compare by their sum first, then by the first district where they differ.
            if reached not in longer or way < longer[reached]:
                longer[reached] = way
    return longer


def worth_trying(own, other):
    """How many might go over in a district, where as few as possible are to go over in all."""
    if own > other:
        return [0]
    # Any other number could be lowered to one of these without losing the tie or the win it brings.
    half = (other - own) // 2
    return [over for over in [0, half, half + 1] if over <= other]
