"""Two camps and their districts: who wins which, how few votes or voters decide it, and how many are idle."""

NO_DISTRICT = -2
NOT_AS_TOLD = -22
CANNOT_BE = -33
MOST_DISTRICTS = 7
MOST_VOTES = 1000


def won(land):
    if not land_is_as_told(land):
        return [NOT_AS_TOLD]
    return districts_won(land)


def turn(k, land):
    if k > 1 or not land_is_as_told(land):
        return [NOT_AS_TOLD]
    return least_gone_over(k, land)


def swing(k, land):
    if k > 1 or not land_is_as_told(land):
        return [NOT_AS_TOLD]
    for over in range(MOST_VOTES + 1):
        gains = gains_of(k, swung(k, land, over))
        if sum(gains) > 0:
            return [over, gains.count(1), gains.count(-1)]
    return [CANNOT_BE]


def fewest(land):
    if not land_is_as_told(land):
        return [NOT_AS_TOLD]
    # Where all votes are camp 1's, camp 0 has afterwards just the votes that went over to it.
    return least_gone_over(0, all_for_camp_1(land))


def idle(land):
    if not land_is_as_told(land):
        return [NOT_AS_TOLD]
    return [idle_votes(0, land), idle_votes(1, land)]


def joined(i, j, land):
    if not land_is_as_told(land):
        return [NOT_AS_TOLD]
    if max(i, j) >= len(land) // 2:
        return [NO_DISTRICT]
    if i == j:
        return [NOT_AS_TOLD]
    return districts_won(as_one_district(i, j, land))


def moved(k, land, voters):
    if k > 1 or not land_is_as_told(land) or not can_go_over(k, land, voters):
        return [NOT_AS_TOLD]
    return districts_won(gone_over(k, land, voters))


def land_is_as_told(land):
    if len(land) % 2 == 1 or len(land) > 2 * MOST_DISTRICTS:
        return False
    return all([votes <= MOST_VOTES for votes in land])


def can_go_over(k, land, voters):
    others = votes_of(1 - k, land)
    if len(voters) != len(others):
        return False
    return all([over <= other for over, other in zip(voters, others)])


def votes_of(k, land):
    return [land[at + k] for at in range(0, len(land), 2)]


# A lead is counted in districts, so that a tie won and a loss evened weigh the same.
def gain(own, other):
    if own > other:
        return 1
    if own < other:
        return -1
    return 0


def gains_of(k, land):
    return [gain(land[at + k], land[at + 1 - k]) for at in range(0, len(land), 2)]


# Apart from won, as a land that is worked out may hold more than 1,000 votes of a camp in a district.
def districts_won(land):
    gains = gains_of(0, land)
    return [gains.count(1), gains.count(-1), gains.count(0)]


def swung(k, land, over):
    return gone_over(k, land, [min(over, other) for other in votes_of(1 - k, land)])


def gone_over(k, land, voters):
    after = list(land)
    for district, over in enumerate(voters):
        after[2 * district + k] += over
        after[2 * district + 1 - k] -= over
    return after


def all_for_camp_1(land):
    given = []
    for at in range(0, len(land), 2):
        given.extend([0, land[at] + land[at + 1]])
    return given


def idle_votes(k, land):
    return sum([idle_there(land[at + k], land[at + 1 - k]) for at in range(0, len(land), 2)])


def idle_there(own, other):
    if own > other:
        return own - (other + 1)
    return own


def as_one_district(i, j, land):
    # Which place the new district has doesn't matter: districts are only counted afterwards.
    after = [land[2 * i] + land[2 * j], land[2 * i + 1] + land[2 * j + 1]]
    for district in range(len(land) // 2):
        if district != i and district != j:
            after.extend([land[2 * district], land[2 * district + 1]])
    return after


def least_gone_over(k, land):
    # Of each lead in districts that can be reached, the best way to it. A way is a list: how many go over in all,
    # then how many in each district. So lists compare as ways do: fewer in all, then fewer where they first differ.
    ways = {0: [0]}
    for at in range(0, len(land), 2):
        ways = with_district(ways, land[at + k], land[at + 1 - k])
    leading = [ways[lead] for lead in ways if lead > 0]
    if len(leading) == 0:
        return [CANNOT_BE]
    return min(leading)


def with_district(ways, own, other):
    longer = {}
    for lead in ways:
        for over in worth_trying(own, other):
            way = [ways[lead][0] + over] + ways[lead][1:] + [over]
            reached = lead + gain(own + over, other - over)
            # Later districts can go on alike from every way to one lead, so the best of them is all that is needed.
            if reached not in longer or way < longer[reached]:
                longer[reached] = way
    return longer


def worth_trying(own, other):
    if own > other:
        return [0]
    # Any other number could be lowered to one of these without losing the tie or the win it brings.
    half = (other - own) // 2
    return [over for over in [0, half, half + 1] if over <= other]
