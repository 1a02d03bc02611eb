package tests

import (
	"math/rand"
	"slices"
	"testing"

	"loop.example/linkstaterouting/impl"
)

// cand is a candidate.
func cand(node int, priority int, claim int) impl.Candidate {
	return impl.Candidate{Node: node, Priority: priority, Claim: claim}
}

// wire returns candidates, each given by its node, its priority and its claim.
func wire(numbers ...int) []impl.Candidate {
	list := []impl.Candidate{}
	for i := 0; i < len(numbers); i += 3 {
		list = append(list, cand(numbers[i], numbers[i+1], numbers[i+2]))
	}
	return list
}

// crowd has as many candidates as there can be, with the greatest priority and the same claim.
func crowd(claim int) []impl.Candidate {
	list := []impl.Candidate{}
	for n := range impl.MaxNodes {
		list = append(list, cand(n, impl.MaxPriority, claim))
	}
	return list
}

// randomWire returns valid candidates. The smaller the greatest priority, the more candidates have the same one.
func randomWire(r *rand.Rand, greatest int) []impl.Candidate {
	list := []impl.Candidate{}
	density := r.Float64()
	for n := range impl.MaxNodes {
		if r.Float64() < density {
			list = append(list, cand(n, r.Intn(greatest+1), r.Intn(3)))
		}
	}
	return list
}

// smallWires returns all candidates with some of these nodes, all claims and priorities up to the greatest one.
func smallWires(greatest int, nodes ...int) [][]impl.Candidate {
	lists := [][]impl.Candidate{{}}
	for _, n := range nodes {
		for _, list := range lists {
			for priority := range greatest + 1 {
				for claim := range 3 {
					lists = append(lists, append(slices.Clone(list), cand(n, priority, claim)))
				}
			}
		}
	}
	return lists
}

// validWires returns candidates of all sorts.
func validWires() [][]impl.Candidate {
	lists := [][]impl.Candidate{nil, crowd(0), crowd(1), crowd(2)}
	lists = append(lists, smallWires(2, 0, 2, 5, 7)...)
	lists = append(lists, smallWires(impl.MaxPriority, 3, 4)...)
	r := rand.New(rand.NewSource(13))
	for i := range 4000 {
		lists = append(lists, randomWire(r, 1+i%impl.MaxPriority))
	}
	return lists
}

// invalidWires returns lists that break one rule each, also by candidates that cannot be elected.
func invalidWires() [][]impl.Candidate {
	lists := [][]impl.Candidate{
		append(crowd(0), cand(8, 9, 0)),
		append(crowd(0), cand(7, 9, 0)),
		append(wire(-1, 9, 0), crowd(0)...),
		append(wire(0, 9, 0), crowd(0)...),
		wire(2, 1, 0, 1, 1, 0),
		wire(2, 1, 0, 2, 1, 0),
		wire(2, 1, 0, 2, 5, 2),
		wire(2, 0, 0, 1, 0, 0),
		wire(2, 0, 0, 2, 0, 0),
		wire(0, 4, 0, 3, 4, 0, 2, 4, 0),
		wire(0, 4, 0, 3, 4, 0, 3, 4, 0),
		wire(0, 4, 0, 3, 4, 0, 2, 4, 0, 7, 4, 0),
		wire(7, 1, 0, 6, 2, 0, 5, 3, 0, 4, 4, 0, 3, 5, 0, 2, 6, 0, 1, 7, 0, 0, 8, 0),
		slices.Repeat(wire(3, 5, 1), 1<<10),
		slices.Repeat(crowd(2), 1<<7),
		make([]impl.Candidate, 1<<10),
	}
	bad := []impl.Candidate{}
	for _, n := range outside(impl.MaxNodes) {
		bad = append(bad, cand(n, 5, 1), cand(n, 0, 0))
	}
	for _, n := range append(outside(impl.MaxPriority+1), 10, 11) {
		bad = append(bad, cand(3, n, 0), cand(3, n, 2))
	}
	for _, n := range append(outside(3), 3, 4) {
		bad = append(bad, cand(3, 5, n), cand(3, 0, n))
	}
	for _, c := range bad {
		lists = append(lists, []impl.Candidate{c})
		lists = append(lists, append(wire(0, 4, 0, 1, 6, 2), c))
		lists = append(lists, append([]impl.Candidate{c}, wire(5, 4, 0, 7, 6, 2)...))
		lists = append(lists, append(append(wire(2, 9, 1), c), wire(4, 6, 2)...))
	}
	return lists
}

// forWires runs a check on all valid candidates.
func forWires(check func(list []impl.Candidate)) {
	for _, list := range validWires() {
		check(list)
	}
}

// among returns the candidates that are wanted.
func among(list []impl.Candidate, wanted func(c impl.Candidate) bool) []impl.Candidate {
	return slices.DeleteFunc(slices.Clone(list), func(c impl.Candidate) bool { return !wanted(c) })
}

// without returns the candidates but for a node.
func without(list []impl.Candidate, node int) []impl.Candidate {
	return among(list, func(c impl.Candidate) bool { return c.Node != node })
}

// electable returns the candidates with a priority greater than 0.
func electable(list []impl.Candidate) []impl.Candidate {
	return among(list, func(c impl.Candidate) bool { return c.Priority > 0 })
}

// isBetter is the document's comparison of candidates.
func isBetter(a impl.Candidate, b impl.Candidate) bool {
	if a.Priority != b.Priority {
		return a.Priority > b.Priority
	}
	return a.Node > b.Node
}

// bestNode is the node of the candidate that is better than all others, or -1.
func bestNode(list []impl.Candidate) int {
	for _, c := range list {
		if len(among(list, func(other impl.Candidate) bool { return isBetter(c, other) })) == len(list)-1 {
			return c.Node
		}
	}
	return -1
}

// greatestClaim is the greatest claim of some candidates, or 0.
func greatestClaim(list []impl.Candidate) int {
	claim := 0
	for _, c := range list {
		claim = max(claim, c.Claim)
	}
	return claim
}

// electionOf are the nodes of the speaker and the backup, found sentence by sentence of the document.
func electionOf(list []impl.Candidate) (int, int) {
	running := electable(list)
	greatest := greatestClaim(running)
	speaker := bestNode(among(running, func(c impl.Candidate) bool { return c.Claim == greatest }))
	others := without(running, speaker)
	claiming := among(others, func(c impl.Candidate) bool { return c.Claim == impl.ClaimBackup || c.Claim == impl.ClaimSpeaker })
	if len(claiming) == 0 {
		claiming = others
	}
	return speaker, bestNode(claiming)
}

// appliedOf are the candidates with the claims that an election gives them.
func appliedOf(list []impl.Candidate, speaker int, backup int) []impl.Candidate {
	applied := []impl.Candidate{}
	for _, c := range list {
		claim := 0
		if c.Node == speaker {
			claim = 2
		} else if c.Node == backup {
			claim = 1
		}
		applied = append(applied, cand(c.Node, c.Priority, claim))
	}
	return applied
}

// apply is SpeakerApply of valid candidates.
func apply(t *testing.T, list []impl.Candidate) []impl.Candidate {
	t.Helper()
	applied := impl.SpeakerApply(list)
	if !impl.CandidatesValid(applied) || len(applied) != len(list) {
		t.Fatalf("SpeakerApply(%v) is %v", list, applied)
	}
	return applied
}

// join returns the candidates with one more, whose node none of them has.
func join(list []impl.Candidate, c impl.Candidate) []impl.Candidate {
	at := len(among(list, func(other impl.Candidate) bool { return other.Node < c.Node }))
	return slices.Insert(slices.Clone(list), at, c)
}

// forJoined runs a check on candidates after SpeakerApply with every further candidate that has no claim.
func forJoined(t *testing.T, check func(applied []impl.Candidate, joined []impl.Candidate, c impl.Candidate)) {
	t.Helper()
	forWires(func(list []impl.Candidate) {
		applied := apply(t, list)
		for node := range impl.MaxNodes {
			if slices.ContainsFunc(list, func(c impl.Candidate) bool { return c.Node == node }) {
				continue
			}
			for _, priority := range []int{0, 1, 2, 5, impl.MaxPriority} {
				c := cand(node, priority, impl.ClaimNone)
				check(applied, join(applied, c), c)
			}
		}
	})
}

// expectElection checks who is elected, and the claims that follow.
func expectElection(t *testing.T, list []impl.Candidate, speaker int, backup int) {
	t.Helper()
	if s, b := impl.SpeakerElect(list); s != speaker || b != backup {
		t.Fatalf("SpeakerElect(%v) is %d, %d, not %d, %d", list, s, b, speaker, backup)
	}
	if got, want := apply(t, list), appliedOf(list, speaker, backup); !slices.Equal(got, want) {
		t.Fatalf("SpeakerApply(%v) is %v, not %v", list, got, want)
	}
}

// expectNoElection checks what the functions say of candidates that are not valid.
func expectNoElection(t *testing.T, list []impl.Candidate) {
	t.Helper()
	shown := list[:min(len(list), 10)]
	if impl.CandidatesValid(list) {
		t.Errorf("CandidatesValid(%v) is true", shown)
	}
	if s, b := impl.SpeakerElect(list); s != -1 || b != -1 {
		t.Errorf("SpeakerElect(%v) is %d, %d", shown, s, b)
	}
	if got := impl.SpeakerApply(list); len(got) != 0 {
		t.Errorf("SpeakerApply(%v) has %d candidates", shown, len(got))
	}
}

func TestSpeakerConstants(t *testing.T) {
	if impl.ClaimNone != 0 || impl.ClaimBackup != 1 || impl.ClaimSpeaker != 2 || impl.MaxPriority != 9 {
		t.Errorf("the constants are %d, %d, %d, %d", impl.ClaimNone, impl.ClaimBackup, impl.ClaimSpeaker, impl.MaxPriority)
	}
}

func TestCandidatesValidAccepts(t *testing.T) {
	forWires(func(list []impl.Candidate) {
		if !impl.CandidatesValid(list) {
			t.Fatalf("CandidatesValid(%v) is false", list)
		}
	})
}

func TestCandidatesValidRejects(t *testing.T) {
	for _, list := range invalidWires() {
		expectNoElection(t, list)
	}
}

// All numbers in the ranges and around them.
func TestCandidatesValidOfOneCandidate(t *testing.T) {
	for node := -2; node <= 10; node++ {
		for priority := -2; priority <= 12; priority++ {
			for claim := -2; claim <= 5; claim++ {
				list := wire(node, priority, claim)
				if node >= 0 && node <= 7 && priority >= 0 && priority <= 9 && claim >= 0 && claim <= 2 {
					if !impl.CandidatesValid(list) {
						t.Errorf("CandidatesValid(%v) is false", list)
					}
					continue
				}
				expectNoElection(t, list)
			}
		}
	}
}

// All orders of three nodes, whatever can be elected.
func TestCandidatesValidIfNodesAscend(t *testing.T) {
	for a := -1; a <= 8; a++ {
		for b := -1; b <= 8; b++ {
			for c := -1; c <= 8; c++ {
				for _, priority := range []int{0, 4} {
					list := wire(a, 4, 0, b, priority, 1, c, 4, 2)
					want := 0 <= a && a < b && b < c && c < 8
					if got := impl.CandidatesValid(list); got != want {
						t.Errorf("CandidatesValid(%v) is %v", list, got)
					}
					if !want {
						expectNoElection(t, list)
					}
				}
			}
		}
	}
}

// Each edge case that the document names, with the claims that follow. Applying once more changes nothing (promise 94).
func TestSpeakerElectByHand(t *testing.T) {
	for _, c := range []struct {
		name    string
		list    []impl.Candidate
		speaker int
		backup  int
	}{
		{"no candidates, no slice", nil, -1, -1},
		{"no candidates", wire(), -1, -1},
		{"one with priority 0", wire(4, 0, 0), -1, -1},
		{"all with priority 0", wire(0, 0, 0, 3, 0, 0, 7, 0, 0), -1, -1},
		{"all with priority 0 and claims", wire(1, 0, 2, 2, 0, 1, 3, 0, 0), -1, -1},
		{"one", wire(4, 3, 0), 4, -1},
		{"node 0 alone", wire(0, 1, 0), 0, -1},
		{"one that was the backup", wire(4, 3, 1), 4, -1},
		{"one that was the speaker", wire(7, 9, 2), 7, -1},
		{"one that can be elected", wire(1, 0, 0, 4, 3, 0, 6, 0, 0), 4, -1},
		{"one that can be elected, without a claim beside claims", wire(1, 0, 2, 4, 3, 0, 6, 0, 1), 4, -1},
		{"two", wire(2, 3, 0, 5, 4, 0), 5, 2},
		{"two, the greater node has the smaller priority", wire(2, 4, 0, 5, 3, 0), 2, 5},
		{"nodes 0 and 1", wire(0, 9, 0, 1, 1, 0), 0, 1},
		{"equal priorities", wire(1, 2, 0, 3, 2, 0), 3, 1},
		{"three equal priorities", wire(1, 2, 0, 3, 2, 0, 4, 2, 0), 4, 3},
		{"two equal priorities behind a greater one", wire(0, 7, 0, 1, 2, 0, 3, 2, 0), 0, 3},
		{"two equal priorities before a smaller one", wire(0, 7, 0, 1, 7, 0, 3, 2, 0), 1, 0},
		{"equal priorities and equal claims", wire(1, 5, 1, 2, 5, 1, 3, 5, 1), 3, 2},
		{"equal priorities and different claims", wire(1, 5, 2, 2, 5, 1, 3, 5, 0), 1, 2},
		{"all nodes", crowd(0), 7, 6},
		{"no claims", wire(0, 1, 0, 2, 8, 0, 3, 6, 0, 6, 7, 0), 2, 6},
		{"several speakers", wire(0, 1, 2, 2, 4, 2, 3, 9, 0, 6, 3, 2), 2, 6},
		{"several speakers of equal priority", wire(0, 4, 2, 2, 4, 2, 3, 9, 0, 6, 4, 2), 6, 2},
		{"several backups", wire(0, 1, 1, 2, 4, 1, 3, 9, 0, 6, 3, 1), 2, 6},
		{"all are speakers", crowd(2), 7, 6},
		{"all are backups", crowd(1), 7, 6},
		{"one of each", wire(1, 9, 0, 2, 1, 2, 3, 3, 0, 4, 2, 1), 2, 4},
		{"one of each, the backup is best", wire(1, 8, 0, 2, 1, 2, 3, 3, 0, 4, 9, 1), 2, 4},
		{"two speakers, a worse backup", wire(1, 9, 0, 2, 6, 2, 3, 5, 2, 4, 4, 1), 2, 3},
		{"two speakers, a better backup", wire(1, 9, 0, 2, 6, 2, 3, 5, 2, 4, 7, 1), 2, 4},
		{"two speakers, a backup of equal priority with a greater node", wire(2, 6, 2, 3, 5, 2, 4, 5, 1), 2, 4},
		{"two speakers, a backup of equal priority with a smaller node", wire(2, 5, 1, 3, 5, 2, 4, 6, 2), 4, 3},
		{"one speaker, several backups", wire(1, 9, 0, 2, 1, 2, 3, 3, 1, 4, 2, 1), 2, 3},
		{"only a speaker", wire(1, 9, 0, 2, 1, 2, 3, 3, 0), 2, 1},
		{"only a backup", wire(1, 9, 0, 2, 1, 1, 3, 3, 0), 2, 1},
		{"a speaker with priority 0", wire(1, 2, 0, 2, 0, 2, 3, 3, 0), 3, 1},
		{"a speaker with priority 0 beside a backup", wire(1, 2, 1, 2, 0, 2, 3, 3, 0), 1, 3},
		{"a backup with priority 0", wire(1, 2, 0, 2, 0, 1, 3, 3, 0, 4, 1, 2), 4, 3},
		{"a worse candidate with the greater claim", wire(1, 1, 2, 2, 9, 1), 1, 2},
		{"the worst one is the speaker", wire(0, 1, 2, 2, 9, 0, 7, 9, 0), 0, 7},
		{"the best one has no claim, a worse one is the backup", wire(1, 9, 0, 3, 5, 2, 6, 1, 1), 3, 6},
		{"the best one has no claim, a worse one was a speaker", wire(1, 9, 0, 3, 5, 2, 6, 1, 2), 3, 6},
		{"the backup comes first, the best one follows", wire(1, 1, 1, 3, 5, 2, 6, 9, 0), 3, 1},
		{"smallest and greatest numbers", wire(0, 9, 1, 7, 1, 2), 7, 0},
	} {
		t.Run(c.name, func(t *testing.T) {
			expectElection(t, c.list, c.speaker, c.backup)
			expectElection(t, apply(t, c.list), c.speaker, c.backup)
		})
	}
}

// The two sentences that define the speaker and the backup.
func TestSpeakerElectAsDefined(t *testing.T) {
	forWires(func(list []impl.Candidate) {
		speaker, backup := electionOf(list)
		expectElection(t, list, speaker, backup)
	})
}

// Promise 91.
func TestSpeakerElectReturnsCandidates(t *testing.T) {
	forWires(func(list []impl.Candidate) {
		speaker, backup := impl.SpeakerElect(list)
		for _, n := range []int{speaker, backup} {
			if n != -1 && !slices.ContainsFunc(electable(list), func(c impl.Candidate) bool { return c.Node == n }) {
				t.Fatalf("SpeakerElect(%v) is %d, %d", list, speaker, backup)
			}
		}
		if speaker == backup && speaker != -1 {
			t.Fatalf("SpeakerElect(%v) is %d, %d", list, speaker, backup)
		}
	})
}

// Promise 92.
func TestSpeakerElectIfThereAreOneOrTwo(t *testing.T) {
	forWires(func(list []impl.Candidate) {
		speaker, backup := impl.SpeakerElect(list)
		if count := len(electable(list)); (speaker != -1) != (count >= 1) || (backup != -1) != (count >= 2) {
			t.Fatalf("SpeakerElect(%v) is %d, %d", list, speaker, backup)
		}
	})
}

// Promise 93.
func TestSpeakerHasGreatestClaimAndIsBestOfThose(t *testing.T) {
	forWires(func(list []impl.Candidate) {
		speaker, _ := impl.SpeakerElect(list)
		for _, s := range list {
			if s.Node != speaker {
				continue
			}
			for _, c := range electable(list) {
				if c.Claim > s.Claim || c.Claim == s.Claim && (c.Priority > s.Priority || c.Priority == s.Priority && c.Node > s.Node) {
					t.Fatalf("SpeakerElect(%v) has the speaker %v, not %v", list, s, c)
				}
			}
		}
	})
}

// The same for the backup: a claim goes before no claim, and is not the greater for being ClaimSpeaker.
func TestBackupHasClaimIfAnyAndIsBestOfThose(t *testing.T) {
	forWires(func(list []impl.Candidate) {
		speaker, backup := impl.SpeakerElect(list)
		others := without(electable(list), speaker)
		for _, b := range others {
			if b.Node != backup {
				continue
			}
			for _, c := range others {
				if c.Claim > 0 && b.Claim == 0 || (c.Claim > 0) == (b.Claim > 0) && isBetter(c, b) {
					t.Fatalf("SpeakerElect(%v) has the backup %v, not %v", list, b, c)
				}
			}
		}
	})
}

// Promise 94.
func TestSpeakerApplyOnceMoreChangesNothing(t *testing.T) {
	forWires(func(list []impl.Candidate) {
		speaker, backup := impl.SpeakerElect(list)
		once := apply(t, list)
		if s, b := impl.SpeakerElect(once); s != speaker || b != backup {
			t.Fatalf("SpeakerElect(%v) is %d, %d, and after SpeakerApply %d, %d", list, speaker, backup, s, b)
		}
		if twice := apply(t, once); !slices.Equal(once, twice) {
			t.Fatalf("SpeakerApply(%v) is %v, and then %v", list, once, twice)
		}
	})
}

// Promise 95.
func TestSpeakerApplyGivesClaimsToBothAlone(t *testing.T) {
	forWires(func(list []impl.Candidate) {
		speaker, backup := impl.SpeakerElect(list)
		for i, c := range apply(t, list) {
			if c.Node != list[i].Node || c.Priority != list[i].Priority {
				t.Fatalf("SpeakerApply(%v) has %v", list, c)
			}
			if (c.Claim == impl.ClaimSpeaker) != (c.Node == speaker) || (c.Claim == impl.ClaimBackup) != (c.Node == backup) {
				t.Fatalf("SpeakerApply(%v) has %v, where %d and %d are elected", list, c, speaker, backup)
			}
		}
	})
}

// Promise 96. What is vacant the new candidate takes, if it can be elected.
func TestSpeakerStaysIfCandidateJoins(t *testing.T) {
	forJoined(t, func(applied []impl.Candidate, joined []impl.Candidate, c impl.Candidate) {
		wantSpeaker, wantBackup := impl.SpeakerElect(applied)
		if c.Priority > 0 && wantSpeaker == -1 {
			wantSpeaker = c.Node
		} else if c.Priority > 0 && wantBackup == -1 {
			wantBackup = c.Node
		}
		if speaker, backup := impl.SpeakerElect(joined); speaker != wantSpeaker || backup != wantBackup {
			t.Fatalf("SpeakerElect(%v) with the new %v is %d, %d, not %d, %d", applied, c, speaker, backup, wantSpeaker, wantBackup)
		}
	})
}

// Promise 97. The new backup is the best one of the others; no former claim is left.
func TestBackupFollowsSpeaker(t *testing.T) {
	forWires(func(list []impl.Candidate) {
		speaker, backup := impl.SpeakerElect(list)
		left := without(apply(t, list), speaker)
		next := bestNode(without(electable(left), backup))
		if s, b := impl.SpeakerElect(left); s != backup || b != next {
			t.Fatalf("without the speaker %d, SpeakerElect(%v) is %d, %d, not %d, %d", speaker, left, s, b, backup, next)
		}
	})
}

// Without the backup the speaker stays.
func TestSpeakerStaysWithoutBackup(t *testing.T) {
	forWires(func(list []impl.Candidate) {
		speaker, backup := impl.SpeakerElect(list)
		left := without(apply(t, list), backup)
		next := bestNode(without(electable(left), speaker))
		if s, b := impl.SpeakerElect(left); s != speaker || b != next {
			t.Fatalf("without the backup %d, SpeakerElect(%v) is %d, %d, not %d, %d", backup, left, s, b, speaker, next)
		}
	})
}

// Nodes come to a wire and leave it: none that comes takes an office from one that has it, and two wires that are joined agree.
func TestSpeakerOfWireOnWhichNodesComeAndGo(t *testing.T) {
	list := wire(3, 0, 0)
	for i, step := range []struct {
		change func() []impl.Candidate
		want   []impl.Candidate
	}{
		{func() []impl.Candidate { return list }, wire(3, 0, 0)},
		{func() []impl.Candidate { return join(list, cand(2, 1, 0)) }, wire(2, 1, 2, 3, 0, 0)},
		{func() []impl.Candidate { return join(list, cand(5, 9, 0)) }, wire(2, 1, 2, 3, 0, 0, 5, 9, 1)},
		{func() []impl.Candidate { return join(list, cand(7, 9, 0)) }, wire(2, 1, 2, 3, 0, 0, 5, 9, 1, 7, 9, 0)},
		{func() []impl.Candidate { return without(list, 2) }, wire(3, 0, 0, 5, 9, 2, 7, 9, 1)},
		{func() []impl.Candidate { return join(list, cand(0, 4, 0)) }, wire(0, 4, 0, 3, 0, 0, 5, 9, 2, 7, 9, 1)},
		{func() []impl.Candidate { return without(list, 7) }, wire(0, 4, 1, 3, 0, 0, 5, 9, 2)},
		{func() []impl.Candidate { return append(list, wire(6, 3, 1, 7, 9, 2)...) }, wire(0, 4, 0, 3, 0, 0, 5, 9, 1, 6, 3, 0, 7, 9, 2)},
		{func() []impl.Candidate { return without(without(list, 7), 5) }, wire(0, 4, 2, 3, 0, 0, 6, 3, 1)},
		{func() []impl.Candidate { return without(without(list, 0), 6) }, wire(3, 0, 0)},
		{func() []impl.Candidate { return nil }, nil},
	} {
		list = apply(t, step.change())
		if !slices.Equal(list, step.want) {
			t.Fatalf("after step %d the candidates are %v, not %v", i, list, step.want)
		}
	}
}

// The other tests would show little if the candidates that they are run on were not of all sorts.
func TestWiresAreOfAllSorts(t *testing.T) {
	sorts := map[string]int{}
	count := func(sort string, is bool) {
		if is {
			sorts[sort]++
		}
	}
	forWires(func(list []impl.Candidate) {
		running := electable(list)
		greatest := greatestClaim(running)
		claims := func(claim int) int {
			return len(among(running, func(c impl.Candidate) bool { return c.Claim == claim }))
		}
		first := bestNode(running)
		speaker, backup := electionOf(list)
		best := slices.ContainsFunc(running, func(c impl.Candidate) bool { return c.Node == first && c.Claim == 0 })
		count("some, all with priority 0", len(list) > 0 && len(running) == 0)
		count("only one can be elected", len(running) == 1 && len(list) > 1)
		count("no claim", len(running) > 1 && greatest == 0)
		count("several speakers", claims(2) > 1)
		count("several backups, no speaker", claims(1) > 1 && claims(2) == 0)
		count("one of each claim", claims(1) == 1 && claims(2) == 1)
		count("a backup better than the second speaker", claims(2) > 1 && slices.ContainsFunc(running, func(c impl.Candidate) bool { return c.Node == backup && c.Claim == 1 }))
		count("a claim with priority 0 that is greater", greatestClaim(list) > greatest)
		count("a speaker that is not best", speaker != first)
		count("the best one without a claim is neither", best && first != speaker && first != backup)
		count("equal priorities", slices.ContainsFunc(running, func(c impl.Candidate) bool {
			return slices.ContainsFunc(running, func(d impl.Candidate) bool { return c.Node != d.Node && c.Priority == d.Priority })
		}))
	})
	for _, sort := range []string{"some, all with priority 0", "only one can be elected", "no claim", "several speakers", "several backups, no speaker",
		"one of each claim", "a backup better than the second speaker", "a claim with priority 0 that is greater", "a speaker that is not best",
		"the best one without a claim is neither", "equal priorities"} {
		if sorts[sort] < 100 {
			t.Errorf("there are %d of the sort: %s", sorts[sort], sort)
		}
	}
}

// The general rules: arguments are not changed, not even behind their ends, and no memory is shared with a result.
func TestElectionsShareNoMemory(t *testing.T) {
	for _, list := range append(validWires(), invalidWires()...) {
		memory := append(slices.Clone(list), cand(-7, -8, -9), cand(-10, -11, -12))
		before := slices.Clone(memory)
		given := memory[:len(list)]
		impl.CandidatesValid(given)
		impl.SpeakerElect(given)
		first := impl.SpeakerApply(given)
		second := impl.SpeakerApply(given)
		kept := slices.Clone(second)
		spoil(first, cand(-1, -2, -3))
		if !slices.Equal(memory, before) || !slices.Equal(second, kept) {
			t.Fatalf("%v has become %v", before[:len(list)], given)
		}
	}
}
