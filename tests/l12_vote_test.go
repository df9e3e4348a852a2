package tests

import (
	"math"
	"math/rand"
	"slices"
	"testing"

	"loop.example/g00572/impl"
)

// No scribe comes by these chapters to stand with the votes of more than most
// of them, or with that of one that there is not; whether these are MostOf, the
// document does not say. The tests take that they are, and that they are not.

func askOf(from, to, reign, index, mark int64) impl.Letter {
	return impl.Letter{Kind: 1, From: from, To: to, Reign: reign, Index: index, Mark: mark}
}

func voteOf(from, to, reign int64, yes bool) impl.Letter {
	return impl.Letter{Kind: 2, From: from, To: to, Reign: reign, Yes: yes}
}

// An outcome is what comes of a scribe: it as it is then, and what it writes.
type outcome struct {
	scribe  impl.Scribe
	letters []impl.Letter
}

func stands(s impl.Scribe, n, me int64) outcome {
	then, letters := impl.Stands(s, n, me)
	return outcome{then, letters}
}

func asked(s impl.Scribe, n, me int64, l impl.Letter) outcome {
	then, letters := impl.Asked(s, n, me, l)
	return outcome{then, letters}
}

func voted(s impl.Scribe, n, me int64, l impl.Letter) outcome {
	then, letters := impl.Voted(s, n, me, l)
	return outcome{then, letters}
}

func sameOutcome(a, b outcome) bool {
	return sameScribe(a.scribe, b.scribe) && slices.EqualFunc(a.letters, b.letters, sameLetter)
}

func keepOutcome(o outcome) outcome {
	kept := outcome{scribe: keepScribe(o.scribe)}
	for _, l := range o.letters {
		kept.letters = append(kept.letters, keepLetter(l))
	}
	return kept
}

// The document's words once more, by another way than the program's: who there
// is and what is for whom is looked up, and votes are counted in a list.

func wantMember(s impl.Scribe, n, me int64) bool {
	return wantScribe(s, n) && slices.Contains([]int64{0, 1, 2, 3, 4}[:n], me)
}

func wantHeard(s impl.Scribe, n, me int64, l impl.Letter, kind int64) bool {
	return s.Awake && wantLetter(l, n) && [2]int64{l.Kind, l.To} == [2]int64{kind, me}
}

func wantStands(s impl.Scribe, n, me int64) outcome {
	if !wantMember(s, n, me) {
		return outcome{}
	}
	out := outcome{scribe: s}
	if !s.Awake || s.Role == 2 || s.Reign > 999 {
		return out
	}
	out.scribe.Reign, out.scribe.Vote, out.scribe.Role, out.scribe.Votes = s.Reign+1, me, 1, wantWith(0, me)
	last := wantLastIn(s.Roll)
	for _, to := range []int64{0, 1, 2, 3, 4}[:n] {
		out.letters = append(out.letters, askOf(me, to, s.Reign+1, last, wantReignAt(s.Roll, last)))
	}
	out.letters = slices.Delete(out.letters, int(me), int(me)+1)
	return out
}

func wantAsked(s impl.Scribe, n, me int64, l impl.Letter) outcome {
	if !wantMember(s, n, me) {
		return outcome{}
	}
	if !wantHeard(s, n, me, l, 1) {
		return outcome{scribe: s}
	}
	s = wantFollows(s, n, l.Reign)
	last := wantLastIn(s.Roll)
	yes := slices.Contains([]int64{-1, l.From}, s.Vote) && wantNewer(l.Index, l.Mark, last, wantReignAt(s.Roll, last)) && s.Reign == l.Reign
	if yes {
		s.Vote = l.From
	}
	return outcome{s, []impl.Letter{voteOf(me, l.From, s.Reign, yes)}}
}

// wantVoted is each outcome that may be: more than one where the document does
// not say.
func wantVoted(s impl.Scribe, n, me int64, l impl.Letter) []outcome {
	if !wantMember(s, n, me) {
		return []outcome{{}}
	}
	if !wantHeard(s, n, me, l, 2) {
		return []outcome{{scribe: s}}
	}
	s = wantFollows(s, n, l.Reign)
	if !l.Yes || s.Role != 1 || s.Reign != l.Reign {
		return []outcome{{scribe: s}}
	}
	s.Votes = wantWith(s.Votes, l.From)
	counted, reigning := outcome{scribe: s}, outcome{scribe: wantReigning(s, n, me)}
	voters := wantMembers(s.Votes)
	switch most := int(wantMostOf(n)); {
	case len(voters) > most || slices.Max(voters) >= n:
		return []outcome{counted, reigning}
	case len(voters) == most:
		return []outcome{reigning}
	}
	return []outcome{counted}
}

func wantReigning(s impl.Scribe, n, me int64) impl.Scribe {
	next := int64(len(s.Roll.List)) + s.Roll.Base + 1
	s.Role, s.Votes, s.Next, s.Match = 2, 0, nil, nil
	if len(s.Roll.List) != 100 {
		s.Roll.List = slices.Concat(s.Roll.List, []impl.Entry{idle(s.Reign)})
	}
	for i := range n {
		s.Next = append(s.Next, next)
		s.Match = append(s.Match, map[int64]int64{me: wantLastIn(s.Roll)}[i])
	}
	return s
}

// checkRight asks that of a right scribe there come a right one and right
// Letters, each from it, of its Reign.
func checkRight(t *testing.T, s impl.Scribe, n, me int64, got outcome) {
	t.Helper()
	if !wantMember(s, n, me) {
		return
	}
	if !impl.ScribeOk(got.scribe, n) || got.scribe.Reign < s.Reign {
		t.Fatalf("of %v, %d comes %v", s, n, got.scribe)
	}
	for _, l := range got.letters {
		if !impl.LetterOk(l, n) || l.From != me || l.Reign != got.scribe.Reign {
			t.Fatalf("of %v, %d, %d comes %v", s, n, me, l)
		}
	}
}

func checkStands(t *testing.T, s impl.Scribe, n, me int64) {
	t.Helper()
	got, want := stands(s, n, me), wantStands(s, n, me)
	if !sameOutcome(got, want) {
		t.Fatalf("Stands(%v, %d, %d) is %v, not %v", s, n, me, got, want)
	}
	checkRight(t, s, n, me, got)
}

func checkAsked(t *testing.T, s impl.Scribe, n, me int64, l impl.Letter) {
	t.Helper()
	got, want := asked(s, n, me, l), wantAsked(s, n, me, l)
	if !sameOutcome(got, want) {
		t.Fatalf("Asked(%v, %d, %d, %v) is %v, not %v", s, n, me, l, got, want)
	}
	checkRight(t, s, n, me, got)
}

func checkVoted(t *testing.T, s impl.Scribe, n, me int64, l impl.Letter) {
	t.Helper()
	got, want := voted(s, n, me, l), wantVoted(s, n, me, l)
	if !slices.ContainsFunc(want, func(one outcome) bool { return sameOutcome(got, one) }) {
		t.Fatalf("Voted(%v, %d, %d, %v) is %v, not %v", s, n, me, l, got, want)
	}
	checkRight(t, s, n, me, got)
}

// checkNothingAt asks that nothing is done at the Letter.
func checkNothingAt(t *testing.T, s impl.Scribe, n, me int64, l impl.Letter) {
	t.Helper()
	as := outcome{scribe: s}
	if a, v := asked(s, n, me, l), voted(s, n, me, l); !sameOutcome(a, as) || !sameOutcome(v, as) {
		t.Fatalf("%v, which is %d of %d, does something at %v: %v, %v", s, me, n, l, a, v)
	}
}

// checkNoOne asks that nothing is answered but the zero Scribe.
func checkNoOne(t *testing.T, s impl.Scribe, n, me int64, l impl.Letter) {
	t.Helper()
	if wantMember(s, n, me) {
		t.Fatalf("the test takes %v, %d, %d otherwise", s, n, me)
	}
	for _, got := range []outcome{stands(s, n, me), asked(s, n, me, l), voted(s, n, me, l)} {
		if !sameOutcome(got, outcome{}) {
			t.Fatalf("of %v, %d, %d, %v comes %v", s, n, me, l, got)
		}
	}
}

// withRole is a scribe of that Role, Reign and Vote, of whom no vote is in
// doubt.
func withRole(t *testing.T, n, role, reign, vote int64) impl.Scribe {
	t.Helper()
	s := follower(t)
	switch role {
	case 1:
		s = stander(t)
		s.Votes = 1
	case 2:
		s = ruler(t, n)
	}
	s.Reign, s.Vote = reign, vote
	return s
}

// standingWith is one of Reign 5 that has these votes.
func standingWith(t *testing.T, me int64, voters ...int64) impl.Scribe {
	t.Helper()
	s := stander(t)
	s.Vote, s.Votes = me, 0
	for _, i := range voters {
		s.Votes += []int64{1, 2, 4, 8, 16}[i]
	}
	return s
}

func others(n, me int64) []int64 {
	return slices.DeleteFunc([]int64{0, 1, 2, 3, 4}[:n], func(i int64) bool { return i == me })
}

func TestStandsAsTold(t *testing.T) {
	for _, c := range []struct {
		scribe impl.Scribe
		n, me  int64
		reign  int64
		votes  int64
		to     []int64
		index  int64
		mark   int64
	}{
		{impl.NewScribe(), 3, 0, 1, 1, []int64{1, 2}, 0, 0}, {impl.NewScribe(), 3, 1, 1, 2, []int64{0, 2}, 0, 0}, {impl.NewScribe(), 5, 4, 1, 16, []int64{0, 1, 2, 3}, 0, 0},
		{follower(t), 3, 2, 6, 4, []int64{0, 1}, 6, 4}, {follower(t), 5, 0, 6, 1, []int64{1, 2, 3, 4}, 6, 4}, {follower(t), 5, 2, 6, 4, []int64{0, 1, 3, 4}, 6, 4},
		{stander(t), 3, 1, 6, 2, []int64{0, 2}, 6, 4}, {stander(t), 5, 3, 6, 8, []int64{0, 1, 2, 4}, 6, 4},
	} {
		want := outcome{scribe: c.scribe}
		want.scribe.Reign, want.scribe.Vote, want.scribe.Votes, want.scribe.Role = c.reign, c.me, c.votes, impl.RoStands
		for _, to := range c.to {
			want.letters = append(want.letters, impl.Letter{Kind: impl.LtAsk, From: c.me, To: to, Reign: c.reign, Index: c.index, Mark: c.mark})
		}
		if got := stands(c.scribe, c.n, c.me); !sameOutcome(got, want) {
			t.Errorf("Stands(%v, %d, %d) is %v, not %v", c.scribe, c.n, c.me, got, want)
		}
		checkStands(t, c.scribe, c.n, c.me)
	}
}

// Index and Mark are of the last entry, wherever it is.
func TestStandsOfEachRoll(t *testing.T) {
	for _, c := range []struct {
		roll  impl.Roll
		index int64
		mark  int64
	}{
		{impl.Roll{}, 0, 0}, {rollOf(0, 0, 1), 1, 1}, {rollOf(0, 0, 2, 2, 7), 3, 7}, {rollOf(1, 1), 1, 1}, {rollOf(300, 9), 300, 9}, {rollOf(12, 3), 12, 3},
		{rollOf(12, 3, 3), 13, 3}, {rollOf(12, 3, 4, 8), 14, 8}, {rollOf(300, 2, steps(100, 20, 3)...), 400, 7}, {rollOf(0, 0, steps(100, 50, 4)...), 100, 5},
	} {
		for _, n := range counts() {
			for role := range int64(2) {
				s := impl.Scribe{Reign: 20, Vote: 1, Roll: c.roll, Awake: true, Role: role, Votes: role * 2, Commit: c.roll.Base}
				for me := range n {
					got := stands(s, n, me)
					for k, l := range got.letters {
						if want := askOf(me, others(n, me)[k], 21, c.index, c.mark); !sameLetter(l, want) {
							t.Errorf("of %v, %d, %d there goes %v, not %v", s, n, me, l, want)
						}
					}
					if len(got.letters) != int(n)-1 || !sameRoll(got.scribe.Roll, c.roll) {
						t.Errorf("Stands(%v, %d, %d) is %v", s, n, me, got)
					}
					checkStands(t, s, n, me)
				}
			}
		}
	}
	for _, r := range someRolls(t) {
		for commit := r.Base; commit <= wantLastIn(r); commit += 25 {
			checkStands(t, impl.Scribe{Reign: 999, Roll: r, Awake: true, Commit: commit}, 5, 3)
			checkStands(t, impl.Scribe{Reign: 1000, Roll: r, Awake: true, Commit: commit}, 5, 3)
		}
	}
}

func TestStandsAtEachReign(t *testing.T) {
	for _, n := range counts() {
		for _, reign := range []int64{0, 1, 2, 500, 998, 999, 1000} {
			for _, s := range inEachRole(t, n) {
				s = withoutRoll(s)
				if s.Reign = reign; reign == 0 && s.Role != 0 {
					checkNoOne(t, s, n, 1, impl.Letter{})
					continue
				}
				got := stands(s, n, 1)
				if does := s.Awake && s.Role != impl.RoReigns && reign < 1000; does {
					if len(got.letters) != int(n)-1 || got.scribe.Reign != reign+1 || got.scribe.Role != impl.RoStands || got.scribe.Vote != 1 || got.scribe.Votes != 2 {
						t.Errorf("Stands(%v, %d, 1) is %v", s, n, got)
					}
				} else if !sameOutcome(got, outcome{scribe: s}) {
					t.Errorf("Stands(%v, %d, 1) is %v", s, n, got)
				}
				checkStands(t, s, n, 1)
			}
		}
	}
}

// Who reigns, and who is not Awake, does not stand, whatever else it is.
func TestStandsWhereNothingIsDone(t *testing.T) {
	for _, n := range counts() {
		for me := range n {
			asleep := impl.NewScribe()
			asleep.Awake = false
			for _, s := range []impl.Scribe{ruler(t, n), sleeper(t), longScribe(t, n), withoutRoll(ruler(t, n)), withoutRoll(sleeper(t)), {}, asleep} {
				if got := stands(s, n, me); !sameOutcome(got, outcome{scribe: s}) {
					t.Errorf("Stands(%v, %d, %d) is %v", s, n, me, got)
				}
			}
		}
	}
}

// It stands again and again, and at last there is no greater Reign.
func TestStandsAgainAndAgain(t *testing.T) {
	s := impl.NewScribe()
	for k := range int64(1003) {
		me := k % 3
		got := stands(s, 3, me)
		switch {
		case k < 1000 && (got.scribe.Reign != k+1 || got.scribe.Vote != me || got.scribe.Votes != wantWith(0, me) || len(got.letters) != 2):
			t.Fatalf("Stands(%v, 3, %d) is %v", s, me, got)
		case k >= 1000 && !sameOutcome(got, outcome{scribe: s}):
			t.Fatalf("Stands(%v, 3, %d) is %v", s, me, got)
		}
		s = got.scribe
	}
}

// A lastEntry is what an LtAsk tells of From's, where one's own is entry 6, of
// Reign 4.
type lastEntry struct {
	index, mark int64
	newer       bool
}

func lastEntries() []lastEntry {
	return []lastEntry{
		{6, 4, true}, {7, 4, true}, {400, 4, true}, {1, 5, true}, {6, 5, true}, {0, 5, true},
		{5, 4, false}, {0, 4, false}, {6, 3, false}, {7, 3, false}, {400, 3, false}, {6, 0, false}, {0, 0, false}, {400, 1, false},
	}
}

// Of each Role, with Reign 5, at a Letter of each Reign, with each Vote and
// each last entry.
func TestAskedAsTold(t *testing.T) {
	for _, n := range counts() {
		for role := range int64(3) {
			for vote := int64(-1); vote < n; vote++ {
				for _, from := range others(n, 1) {
					for _, last := range lastEntries() {
						s := withRole(t, n, role, 5, vote)
						checkAskedAtReigns(t, s, n, askOf(from, 1, 5, last.index, last.mark), last.newer)
					}
				}
			}
		}
	}
}

// checkAskedAtReigns is of scribe 1, which is of Reign 5 as the Letter is,
// where From's last entry is Newer or is not.
func checkAskedAtReigns(t *testing.T, s impl.Scribe, n int64, l impl.Letter, newer bool) {
	t.Helper()
	yes := newer && (s.Vote == -1 || s.Vote == l.From)
	same := outcome{s, []impl.Letter{{Kind: impl.LtVote, From: 1, To: l.From, Reign: 5, Yes: yes}}}
	if yes {
		same.scribe.Vote = l.From
	}
	if got := asked(s, n, 1, l); !sameOutcome(got, same) {
		t.Fatalf("Asked(%v, %d, 1, %v) is %v, not %v", s, n, l, got, same)
	}
	for _, reign := range []int64{6, 7, 1000} {
		// Its Vote is forgotten, and it follows.
		l.Reign = reign
		greater := outcome{s, []impl.Letter{{Kind: impl.LtVote, From: 1, To: l.From, Reign: reign, Yes: newer}}}
		greater.scribe.Reign, greater.scribe.Vote, greater.scribe.Role, greater.scribe.Votes, greater.scribe.Next, greater.scribe.Match = reign, -1, 0, 0, nil, nil
		if newer {
			greater.scribe.Vote = l.From
		}
		if got := asked(s, n, 1, l); !sameOutcome(got, greater) {
			t.Fatalf("Asked(%v, %d, 1, %v) is %v, not %v", s, n, l, got, greater)
		}
	}
	for reign := max(l.Mark, 1); reign < 5; reign++ {
		l.Reign = reign
		lesser := outcome{s, []impl.Letter{{Kind: impl.LtVote, From: 1, To: l.From, Reign: 5}}}
		if got := asked(s, n, 1, l); !sameOutcome(got, lesser) {
			t.Fatalf("Asked(%v, %d, 1, %v) is %v, not %v", s, n, l, got, lesser)
		}
	}
}

// One's own last entry is there, is folded away, or is none.
func TestAskedOfEachRoll(t *testing.T) {
	for _, c := range []struct {
		roll  impl.Roll
		index int64
		mark  int64
	}{
		{impl.Roll{}, 0, 0}, {rollOf(0, 0, 1), 1, 1}, {rollOf(0, 0, 3, 3, 7), 3, 7}, {rollOf(300, 9), 300, 9}, {rollOf(12, 3), 12, 3}, {rollOf(12, 3, 3), 13, 3}, {rollOf(12, 3, 4, 8), 14, 8}, {rollOf(300, 2, steps(100, 20, 3)...), 400, 7},
	} {
		s := impl.Scribe{Reign: 20, Vote: -1, Roll: c.roll, Awake: true, Commit: c.roll.Base}
		for _, index := range []int64{0, 1, c.index - 1, c.index, c.index + 1, 400} {
			for _, mark := range []int64{0, 1, c.mark - 1, c.mark, c.mark + 1, 20} {
				l := askOf(2, 0, 20, index, mark)
				if !wantLetter(l, 3) {
					continue
				}
				want := mark > c.mark || mark == c.mark && index >= c.index
				if got := asked(s, 3, 0, l); len(got.letters) != 1 || got.letters[0].Yes != want || (got.scribe.Vote == 2) != want {
					t.Errorf("Asked(%v, 3, 0, %v) is %v", s, l, got)
				}
				checkAsked(t, s, 3, 0, l)
				l.Reign = 21
				checkAsked(t, s, 3, 0, l)
			}
		}
	}
}

// A new scribe of Reign 0 is asked for the first time; one of the greatest
// Reign, for the last.
func TestAskedAtEachReign(t *testing.T) {
	for _, n := range counts() {
		for _, own := range []int64{0, 1, 2, 999, 1000} {
			for _, reign := range []int64{1, 2, 3, 998, 999, 1000} {
				s := impl.NewScribe()
				s.Reign = own
				l := askOf(n-1, 0, reign, 0, 0)
				got := asked(s, n, 0, l)
				if len(got.letters) != 1 || got.letters[0].Yes != (reign >= own) || got.letters[0].Reign != max(own, reign) || got.scribe.Reign != max(own, reign) {
					t.Errorf("Asked(%v, %d, 0, %v) is %v", s, n, l, got)
				}
				checkAsked(t, s, n, 0, l)
			}
		}
	}
}

// Promise 12: asked in one Reign by each of the others, one after the other,
// and by each twice, it says Yes to the first one alone, and once more where
// that one asks again.
func TestAskedVotesForOneInAReign(t *testing.T) {
	for _, n := range counts() {
		for me := range n {
			for _, first := range others(n, me) {
				for _, start := range []impl.Scribe{impl.NewScribe(), withRole(t, n, 0, 5, -1), withRole(t, n, 0, 6, -1), withRole(t, n, 1, 5, me), withRole(t, n, 2, 5, me)} {
					s := start
					askers := append([]int64{first, first}, others(n, me)...)
					for _, from := range append(askers, append(askers, others(n, me)...)...) {
						got := asked(s, n, me, askOf(from, me, 6, 6, 4))
						if len(got.letters) != 1 || got.letters[0].Yes != (from == first) || got.letters[0].To != from || got.scribe.Vote != first || got.scribe.Reign != 6 {
							t.Fatalf("%d, who has voted for %d, is asked by %d: %v", me, first, from, got)
						}
						s = got.scribe
					}
				}
			}
		}
	}
}

// Promise 12: who stands has voted for itself, and says Yes to no other one in
// that Reign, nor when it reigns.
func TestAskedOfWhoStands(t *testing.T) {
	for _, n := range counts() {
		for me := range n {
			for _, start := range []impl.Scribe{impl.NewScribe(), follower(t), stander(t)} {
				standing := stands(start, n, me).scribe
				reign := standing.Reign
				reigning := standing
				for _, from := range others(n, me) {
					reigning = voted(reigning, n, me, voteOf(from, me, reign, true)).scribe
				}
				if reigning.Role != impl.RoReigns {
					t.Fatalf("%v does not reign", reigning)
				}
				for _, s := range []impl.Scribe{standing, reigning} {
					for _, from := range append(others(n, me), others(n, me)...) {
						got := asked(s, n, me, askOf(from, me, reign, 400, reign))
						if want := (outcome{s, []impl.Letter{voteOf(me, from, reign, false)}}); !sameOutcome(got, want) {
							t.Fatalf("%d of %d, who stands, is asked by %d: %v, not %v", me, n, from, got, want)
						}
					}
					// In the next one it has not voted yet.
					got := asked(s, n, me, askOf(others(n, me)[0], me, reign+1, 400, reign))
					if !got.letters[0].Yes || got.scribe.Role != impl.RoFollows || got.scribe.Reign != reign+1 {
						t.Fatalf("%d of %d, who stands, is asked in the next Reign: %v", me, n, got)
					}
				}
			}
		}
	}
}

// Asked by one that is not Newer it votes for none, and then for another one
// that is.
func TestAskedByOneThatIsNotNewer(t *testing.T) {
	s := withRole(t, 5, 0, 5, -1)
	for _, from := range []int64{2, 3, 4} {
		got := asked(s, 5, 0, askOf(from, 0, 5, 5, 4))
		if got.letters[0].Yes || got.scribe.Vote != -1 {
			t.Fatalf("it is voted for %d: %v", from, got)
		}
		s = got.scribe
	}
	got := asked(s, 5, 0, askOf(3, 0, 5, 6, 4))
	if !got.letters[0].Yes || got.scribe.Vote != 3 {
		t.Fatalf("it is not voted for 3: %v", got)
	}
	// Nor is it, once it has the Vote, where it is not Newer any more.
	again := asked(got.scribe, 5, 0, askOf(3, 0, 5, 5, 4))
	if again.letters[0].Yes || again.scribe.Vote != 3 {
		t.Fatalf("it is voted for 3: %v", again)
	}
}

// Where one vote more is not yet most of them, it is one of Votes, and nothing
// else is done.
func TestVotedAsTold(t *testing.T) {
	for _, c := range []struct {
		n, me  int64
		voters []int64
		from   int64
		then   int64
		reigns bool
	}{
		{3, 0, []int64{0}, 1, 0, true}, {3, 0, []int64{0}, 2, 0, true}, {3, 1, []int64{1}, 0, 0, true}, {3, 2, []int64{2}, 1, 0, true},
		{5, 0, []int64{0}, 1, 3, false}, {5, 0, []int64{0}, 4, 17, false}, {5, 2, []int64{2}, 0, 5, false}, {5, 4, []int64{4}, 3, 24, false},
		{5, 0, []int64{0, 1}, 1, 3, false}, {5, 2, []int64{0, 2}, 0, 5, false}, {5, 4, []int64{3, 4}, 3, 24, false},
		{5, 0, []int64{0, 1}, 2, 0, true}, {5, 2, []int64{0, 2}, 4, 0, true}, {5, 4, []int64{3, 4}, 0, 0, true}, {5, 1, []int64{1, 3}, 4, 0, true},
		{3, 0, nil, 1, 2, false}, {5, 0, nil, 4, 16, false}, {5, 0, []int64{3}, 4, 24, false},
	} {
		s := standingWith(t, c.me, c.voters...)
		got := voted(s, c.n, c.me, voteOf(c.from, c.me, 5, true))
		if c.reigns != (got.scribe.Role == impl.RoReigns) || got.scribe.Votes != c.then || len(got.letters) != 0 {
			t.Errorf("%d of %d has the votes of %v and %d: %v", c.me, c.n, c.voters, c.from, got)
		}
		if want := s; !c.reigns {
			want.Votes = c.then
			if !sameOutcome(got, outcome{scribe: want}) {
				t.Errorf("it is %v, not %v", got, want)
			}
		}
		checkVoted(t, s, c.n, c.me, voteOf(c.from, c.me, 5, true))
	}
}

// Who begins to reign: an Entry of its Reign is put behind where there is room;
// Next is behind what was there ahead of that, Match 0, but its own the last.
func TestVotedWhoBeginsToReign(t *testing.T) {
	for _, c := range []struct {
		roll impl.Roll
		more bool
		next int64
		last int64
	}{
		{impl.Roll{}, true, 1, 1}, {rollOf(0, 0, 1), true, 2, 2}, {rollOf(0, 0, 2, 2, 7), true, 4, 4}, {rollOf(0, 0, 5, 20), true, 3, 3},
		{rollOf(1, 1), true, 2, 2}, {rollOf(300, 9), true, 301, 301}, {rollOf(12, 3, 4, 8), true, 15, 15}, {rollOf(300, 20), true, 301, 301},
		{rollOf(0, 0, steps(99, 20, 3)...), true, 100, 100}, {rollOf(0, 0, steps(100, 20, 3)...), false, 101, 100}, {rollOf(7, 2, steps(98, 20, 3)...), true, 106, 106},
		{rollOf(7, 2, steps(99, 20, 3)...), true, 107, 107}, {rollOf(7, 2, steps(100, 20, 3)...), false, 108, 107}, {rollOf(300, 2, steps(99, 20, 3)...), true, 400, 400}, {rollOf(300, 2, steps(100, 20, 3)...), false, 401, 400},
	} {
		for _, n := range counts() {
			for me := range n {
				from := others(n, me)
				s := impl.Scribe{Reign: 20, Vote: me, Roll: c.roll, Kept: aBook(), Awake: true, Role: 1, Commit: wantLastIn(c.roll), Votes: wantWith(0, me), Now: otherBook()}
				if n == 5 {
					s.Votes = wantWith(s.Votes, from[3])
				}
				want := outcome{scribe: keepScribe(s)}
				want.scribe.Role, want.scribe.Votes = impl.RoReigns, 0
				want.scribe.Next, want.scribe.Match = slices.Repeat([]int64{c.next}, int(n)), make([]int64, n)
				want.scribe.Match[me] = c.last
				if c.more {
					want.scribe.Roll.List = append(want.scribe.Roll.List, impl.Entry{Reign: 20})
				}
				if got := voted(s, n, me, voteOf(from[1], me, 20, true)); !sameOutcome(got, want) {
					t.Errorf("Voted(%v, %d, %d, ..) is %v, not %v", s, n, me, got, want)
				}
				checkVoted(t, s, n, me, voteOf(from[0], me, 20, true))
			}
		}
	}
}

// Without Yes, of another Reign, or of who does not stand, no vote is counted.
func TestVotedWhereNoVoteIsCounted(t *testing.T) {
	for _, n := range counts() {
		for role := range int64(3) {
			for _, yes := range []bool{true, false} {
				for reign := int64(1); reign <= 8; reign++ {
					for _, vote := range []int64{-1, 0, 1, 2} {
						s := withRole(t, n, role, 5, vote)
						l := voteOf(1, 0, reign, yes)
						got := voted(s, n, 0, l)
						switch {
						case reign > 5:
							if want := wantFollows(s, n, reign); !sameOutcome(got, outcome{scribe: want}) || got.scribe.Role != impl.RoFollows || got.scribe.Vote != -1 {
								t.Errorf("Voted(%v, %d, 0, %v) is %v", s, n, l, got)
							}
						case role == 1 && reign == 5 && yes:
							if sameOutcome(got, outcome{scribe: s}) {
								t.Errorf("Voted(%v, %d, 0, %v) does nothing", s, n, l)
							}
						case !sameOutcome(got, outcome{scribe: s}):
							t.Errorf("Voted(%v, %d, 0, %v) is %v", s, n, l, got)
						}
						checkVoted(t, s, n, 0, l)
					}
				}
			}
		}
	}
}

// One vote short of most of them, the same one's vote twice is one; once it
// reigns, no vote does anything.
func TestVotedByTheSameOneTwice(t *testing.T) {
	for _, n := range counts() {
		for me := range n {
			s := stands(follower(t), n, me).scribe
			rest := others(n, me)
			short := rest[:n/2-1]
			for _, from := range slices.Concat(short, short, short) {
				s = voted(s, n, me, voteOf(from, me, 6, true)).scribe
				if s.Role != impl.RoStands {
					t.Fatalf("%d of %d reigns with the votes of %v", me, n, short)
				}
			}
			for _, from := range rest {
				no := voted(s, n, me, voteOf(from, me, 6, false))
				if !sameOutcome(no, outcome{scribe: s}) {
					t.Fatalf("a vote without Yes of %d is counted: %v", from, no)
				}
			}
			s = voted(s, n, me, voteOf(rest[n/2-1], me, 6, true)).scribe
			if s.Role != impl.RoReigns || s.Reign != 6 || s.Vote != me || len(s.Roll.List) != 5 {
				t.Fatalf("%d of %d does not reign: %v", me, n, s)
			}
			for _, from := range slices.Concat(rest, rest) {
				if got := voted(s, n, me, voteOf(from, me, 6, true)); !sameOutcome(got, outcome{scribe: s}) {
					t.Fatalf("who reigns counts the vote of %d: %v", from, got)
				}
			}
		}
	}
}

// Nothing is done at a Letter that is not right, not for me, of another Kind,
// or by who is not Awake.
func TestVotesWhereNothingIsDone(t *testing.T) {
	for _, n := range counts() {
		scribes := append(inEachRole(t, n), impl.NewScribe())
		for _, s := range scribes {
			for _, l := range wrongLetters(t, n) {
				for me := range n {
					checkNothingAt(t, s, n, me, l)
				}
			}
			for _, l := range someLetters(t, n) {
				for me := range n {
					l.Reign = max(l.Reign, 6)
					a, v := asked(s, n, me, l), voted(s, n, me, l)
					if does := s.Awake && me == l.To && l.Kind == impl.LtAsk; sameOutcome(a, outcome{scribe: s}) == does {
						t.Fatalf("Asked(%v, %d, %d, %v) is %v", s, n, me, l, a)
					}
					if does := s.Awake && me == l.To && l.Kind == impl.LtVote; sameOutcome(v, outcome{scribe: s}) == does {
						t.Fatalf("Voted(%v, %d, %d, %v) is %v", s, n, me, l, v)
					}
				}
			}
		}
	}
}

// Each thing by itself that makes a Letter not heard.
func TestVotesOfALetterThatIsNotHeard(t *testing.T) {
	for _, n := range counts() {
		for _, s := range []impl.Scribe{withRole(t, n, 0, 5, -1), withRole(t, n, 1, 5, -1), withRole(t, n, 2, 5, -1), impl.NewScribe()} {
			for _, l := range []impl.Letter{askOf(2, 1, 5, 6, 4), askOf(2, 1, 9, 6, 4), voteOf(2, 1, 5, true), voteOf(2, 1, 9, true), voteOf(2, 1, 9, false)} {
				for _, change := range []func(*impl.Letter){
					func(l *impl.Letter) { l.Kind = 0 }, func(l *impl.Letter) { l.Kind = 3 - l.Kind; l.Index = 1; l.Yes = true }, func(l *impl.Letter) { l.Kind = impl.LtAdd }, func(l *impl.Letter) { l.Kind, l.Index, l.Mark = impl.LtGot, 0, 0 }, func(l *impl.Letter) { l.Kind, l.Yes = impl.LtGift, false },
					func(l *impl.Letter) { l.From = 1 }, func(l *impl.Letter) { l.From = -1 }, func(l *impl.Letter) { l.From = n },
					func(l *impl.Letter) { l.To = 0 }, func(l *impl.Letter) { l.To = -1 }, func(l *impl.Letter) { l.To = n }, func(l *impl.Letter) { l.From, l.To = l.To, l.From },
					func(l *impl.Letter) { l.Reign = 0 }, func(l *impl.Letter) { l.Reign = 1001 }, func(l *impl.Letter) { l.Reign = math.MaxInt64 }, func(l *impl.Letter) { l.Reign = math.MinInt64 },
					func(l *impl.Letter) { l.Index = -1 }, func(l *impl.Letter) { l.Index = 401 }, func(l *impl.Letter) { l.Mark = -1 }, func(l *impl.Letter) { l.Mark = l.Reign + 1 }, func(l *impl.Letter) { l.Commit = 1 },
					func(l *impl.Letter) { l.List = told(1) }, func(l *impl.Letter) { l.Book.Lasts = lastsOf(1) }, func(l *impl.Letter) { l.Book.Shelf = shelfOfLength(1) },
				} {
					one := l
					change(&one)
					checkNothingAt(t, s, n, 1, one)
				}
			}
			yes, more := askOf(2, 1, 9, 6, 4), voteOf(2, 1, 9, true)
			yes.Yes, more.Index = true, 1
			checkNothingAt(t, s, n, 1, yes)
			checkNothingAt(t, s, n, 1, more)
		}
		for _, s := range []impl.Scribe{sleeper(t), withoutRoll(sleeper(t)), {}, {Vote: -1}} {
			for _, l := range []impl.Letter{askOf(2, 1, 9, 400, 9), askOf(2, 1, s.Reign+1, 400, 1), voteOf(2, 1, 5, true), voteOf(2, 1, 9, true)} {
				checkNothingAt(t, s, n, 1, l)
			}
		}
	}
}

// Of who is not right, and where there is no such one, there is nothing but
// the zero Scribe, also where the Letter is not heard.
func TestVotesOfNoOne(t *testing.T) {
	letters := append(eachLetter(t), askOf(2, 1, 9, 6, 4), voteOf(2, 1, 5, true), voteOf(2, 0, 5, true), impl.Letter{})
	for _, n := range counts() {
		for i, s := range wrongScribes(t, n) {
			for k := range int64(3) {
				checkNoOne(t, s, n, k, letters[(i+int(k))%len(letters)])
				checkNoOne(t, s, n, k, askOf(2, k, 9, 6, 4))
			}
		}
		for _, s := range append(someScribes(t, n), impl.NewScribe()) {
			for _, me := range append(farOff(), -2, -1, n, n+1) {
				checkNoOne(t, s, n, me, letters[0])
				checkNoOne(t, s, n, me, askOf(1, me, 1000, 400, 1000))
				checkNoOne(t, s, n, me, voteOf(1, me, s.Reign, true))
			}
			for _, none := range append(farOff(), -3, 0, 1, 2, 4, 6) {
				for _, l := range letters {
					checkNoOne(t, s, none, 1, l)
				}
			}
		}
	}
	checkNoOne(t, ruler(t, 3), 5, 1, askOf(2, 1, 9, 6, 4))
	checkNoOne(t, ruler(t, 5), 3, 1, askOf(2, 1, 9, 6, 4))
	for me := int64(-1); me <= 5; me++ {
		if is := me >= 0 && me < 3; is {
			checkStands(t, follower(t), 3, me)
		} else {
			checkNoOne(t, follower(t), 3, me, askOf(2, 1, 9, 6, 4))
		}
	}
}

// A hallOf is scribes and what they write, and what each has said Yes to in
// each Reign; who stands has said so to itself.
type hallOf struct {
	scribes []impl.Scribe
	way     []impl.Letter
	yes     map[[2]int64]int64
	chiefs  map[int64]int64
	reigned int
}

// step lets one stand now and then, and else brings a Letter, which may come
// again, or not at all.
func (h *hallOf) step(t *testing.T, r *rand.Rand) {
	t.Helper()
	n := int64(len(h.scribes))
	if len(h.way) == 0 || r.Intn(12) == 0 {
		me := r.Int63n(n)
		got := stands(h.scribes[me], n, me)
		if len(got.letters) > 0 {
			h.says(t, me, got.scribe.Reign, me)
		}
		h.comes(t, me, got)
		return
	}
	k := r.Intn(len(h.way))
	l := h.way[k]
	if r.Intn(4) > 0 {
		h.way = slices.Delete(h.way, k, k+1)
	}
	if r.Intn(8) == 0 {
		return
	}
	if l.Kind == impl.LtVote {
		h.comes(t, l.To, voted(h.scribes[l.To], n, l.To, l))
		return
	}
	got := asked(h.scribes[l.To], n, l.To, l)
	for _, back := range got.letters {
		if back.Yes {
			h.says(t, l.To, back.Reign, back.To)
		}
	}
	h.comes(t, l.To, got)
}

// says asks that whoever said Yes in a Reign says so to no other one there.
func (h *hallOf) says(t *testing.T, who, reign, to int64) {
	t.Helper()
	if had, is := h.yes[[2]int64{who, reign}]; is && had != to {
		t.Fatalf("in Reign %d, %d votes for %d and for %d", reign, who, had, to)
	}
	h.yes[[2]int64{who, reign}] = to
}

func (h *hallOf) comes(t *testing.T, me int64, got outcome) {
	t.Helper()
	h.scribes[me] = got.scribe
	h.way = append(h.way, got.letters...)
	if got.scribe.Role == impl.RoReigns {
		if had, is := h.chiefs[got.scribe.Reign]; is && had != me {
			t.Fatalf("in Reign %d, %d reigns and %d", got.scribe.Reign, had, me)
		} else if !is {
			h.reigned++
		}
		h.chiefs[got.scribe.Reign] = me
	}
}

// Promise 12: whatever comes to them, in whatever order, each votes for one in
// a Reign; so one at most reigns in it.
func TestVotesOfManyReigns(t *testing.T) {
	r := rand.New(rand.NewSource(13))
	reigned := 0
	for round := range 40 {
		n := counts()[round%2]
		h := hallOf{scribes: slices.Repeat([]impl.Scribe{impl.NewScribe()}, int(n)), yes: map[[2]int64]int64{}, chiefs: map[int64]int64{}}
		for range 400 {
			h.step(t, r)
		}
		reigned += h.reigned
	}
	if reigned < 100 {
		t.Errorf("only %d have begun to reign", reigned)
	}
}

func TestVotesOfManyKinds(t *testing.T) {
	r := rand.New(rand.NewSource(14))
	counted := map[string]int{}
	for _, n := range counts() {
		scribes := manyScribes(t, r, n, 2500)
		letters := manyLetters(t, r, n, 2500)
		for i, s := range scribes {
			me := r.Int63n(n+1) - r.Int63n(2)
			if r.Intn(4) == 0 {
				s = standingWith(t, me, r.Int63n(n))
			}
			checkStands(t, s, n, me)
			l := letters[i]
			if r.Intn(6) > 0 {
				reign := max(1, s.Reign+[]int64{0, 0, 1, -1}[r.Intn(4)])
				l = []impl.Letter{askOf(r.Int63n(n), me, reign, l.Index, l.Mark), voteOf(r.Int63n(n), me, reign, r.Intn(4) > 0)}[r.Intn(2)]
			}
			checkAsked(t, s, n, me, l)
			checkVoted(t, s, n, me, l)
			if got := asked(s, n, me, l); len(got.letters) > 0 {
				counted[map[bool]string{true: "yes", false: "no"}[got.letters[0].Yes]]++
			}
			if then := voted(s, n, me, l).scribe; s.Role == 1 && then.Role == 2 {
				counted["reigns"]++
			} else if s.Role == 1 && then.Role == 1 && then.Votes != s.Votes {
				counted["counted"]++
			}
		}
	}
	for _, word := range []string{"yes", "no", "reigns", "counted"} {
		if counted[word] < 15 {
			t.Errorf("%s: %d", word, counted[word])
		}
	}
}

// Promise 21, of this chapter: each one answers at every argument, as the
// document tells.
func TestVotesAnswerAtEveryArgument(t *testing.T) {
	check := func(s impl.Scribe, n, me int64, l impl.Letter) {
		t.Helper()
		checkStands(t, s, n, me)
		checkAsked(t, s, n, me, l)
		checkVoted(t, s, n, me, l)
	}
	ask, yes := askOf(2, 1, 5, 6, 4), voteOf(2, 1, 5, true)
	for _, number := range append(farOff(), -2, -1, 0, 1, 2, 3, 4, 5, 6, 31, 300, 400, 401, 999, 1000, 1001) {
		for _, s := range inEachRole(t, 3) {
			check(s, number, 1, ask)
			check(s, 3, number, ask)
			check(s, number, number, yes)
			for at := range scribeNumbers(&impl.Scribe{}) {
				one := keepScribe(s)
				*scribeNumbers(&one)[at] = number
				check(one, 3, 1, ask)
				check(one, 3, 1, yes)
			}
			for at := range letterNumbers(&impl.Letter{}) {
				for _, l := range []impl.Letter{ask, yes, fullLetter(t)} {
					*letterNumbers(&l)[at] = number
					check(s, 3, 1, l)
					check(s, 3, l.To, l)
				}
			}
		}
	}
	texts := someTexts()
	for i := 0; i < len(texts); i += 37 {
		entries, kept, list, gift := follower(t), stander(t), letterOf(t, 3), letterOf(t, 5)
		entries.Roll.List[0].Order.Deed.Name = texts[i]
		kept.Kept.Shelf[0].Name = texts[i]
		list.List[0].Order.Deed.Name = texts[i]
		gift.Book.Shelf[0].Name = texts[i]
		check(entries, 5, 1, ask)
		check(kept, 5, 1, yes)
		check(follower(t), 5, 1, list)
		check(stander(t), 5, 1, gift)
	}
}

// A voteCase is a scribe of 5 that is 1 of them, and a Letter to it.
type voteCase struct {
	scribe impl.Scribe
	letter impl.Letter
}

// voteCases is scribes at which something is done and such at which nothing
// is, right and not.
func voteCases(t *testing.T) []voteCase {
	t.Helper()
	letters := []impl.Letter{askOf(2, 1, 5, 6, 4), askOf(0, 1, 900, 400, 900), askOf(4, 1, 4, 1, 1), voteOf(2, 1, 5, true), voteOf(3, 1, 5, true), voteOf(4, 1, 1000, false), letterOf(t, 3), letterOf(t, 5), fullLetter(t), {}}
	scribes := memoryScribes(t)
	for _, roll := range []impl.Roll{{}, orderedRoll(t), rollOf(300, 4), rollOf(7, 1, steps(100, 30, 1)...)} {
		s := stander(t)
		s.Vote, s.Votes, s.Roll, s.Commit = 1, 10, roll, roll.Base
		scribes = append(scribes, s)
	}
	var cases []voteCase
	for i, s := range scribes {
		for k := range letters {
			if k < 6 || i%4 == 0 {
				cases = append(cases, voteCase{s, letters[k]})
			}
		}
	}
	return cases
}

func voteAnswers(s impl.Scribe, l impl.Letter) []outcome {
	return []outcome{stands(s, 5, 1), asked(s, 5, 1, l), voted(s, 5, 1, l)}
}

func keepOutcomes(outcomes []outcome) []outcome {
	var kept []outcome
	for _, o := range outcomes {
		kept = append(kept, keepOutcome(o))
	}
	return kept
}

func sameOutcomes(a, b []outcome) bool { return slices.EqualFunc(a, b, sameOutcome) }

// clearOutcome clears each list of it, its spare room too.
func clearOutcome(o outcome) {
	clearScribe(o.scribe)
	clear(o.letters[:cap(o.letters)])
}

// Promise 21, of this chapter: arguments stay, their spare room too, and an
// answer is the same when they are changed behind it.
func TestVotesKeepTheirArguments(t *testing.T) {
	for _, c := range voteCases(t) {
		want := keepOutcomes(voteAnswers(c.scribe, c.letter))
		v, w := viewedScribe(c.scribe), viewedLetter(c.letter)
		before, letterBefore, letterWas := v.shown(), w.shown(), letterText(w.letter)
		got := voteAnswers(v.scribe, w.letter)
		if v.shown() != before || w.shown() != letterBefore || letterText(w.letter) != letterWas || !sameScribe(v.scribe, c.scribe) {
			t.Fatalf("%s, %s are written into: %s, %s", before, letterBefore, v.shown(), w.shown())
		}
		v.spoil()
		w.spoil()
		if !sameOutcomes(got, want) {
			t.Fatalf("of %v an answer shares its memory: %v, not %v", c, got, want)
		}
	}
}

// Promise 21, of this chapter: what is changed in an answer, or behind it in
// its spare room, is changed neither in an argument nor in another answer.
func TestVotesAnswerAnewEachTime(t *testing.T) {
	for _, c := range voteCases(t) {
		v, w := viewedScribe(c.scribe), viewedLetter(c.letter)
		before, letterBefore := v.shown(), w.shown()
		first := voteAnswers(v.scribe, w.letter)
		want := keepOutcomes(first)
		second := voteAnswers(v.scribe, w.letter)
		for k, answer := range first {
			clearOutcome(answer)
			if !sameOutcomes(first[k+1:], want[k+1:]) {
				t.Fatalf("of %v, a change of answer %d changes another: %v", c, k, first)
			}
		}
		if v.shown() != before || w.shown() != letterBefore {
			t.Fatalf("a change of an answer changes an argument: %s, not %s", v.shown(), before)
		}
		if third := voteAnswers(v.scribe, w.letter); !sameOutcomes(second, want) || !sameOutcomes(third, want) {
			t.Fatalf("of %v, a change of one answer changes another: %v, %v", c, second, third)
		}
	}
}

func outcomeRegions(o outcome) []region {
	regions := append(scribeRegions(o.scribe), listRegion("Letters", o.letters))
	for _, l := range o.letters {
		regions = append(regions, letterRegions(l)...)
	}
	return regions
}

// Promise 21, of this chapter: no list of an answer shares memory with an
// argument or with another list of the answer, and no text does; not even
// where two lists of the argument do.
func TestVotesListsShareNoMemory(t *testing.T) {
	cases := voteCases(t)
	for _, s := range sharingScribes(t) {
		cases = append(cases, voteCase{s, askOf(2, 1, 9, 6, 4)}, voteCase{s, voteOf(2, 1, 5, true)}, voteCase{s, letterOf(t, 5)})
	}
	for _, c := range cases {
		given := append(scribeRegions(c.scribe), letterRegions(c.letter)...)
		for _, answer := range voteAnswers(c.scribe, c.letter) {
			regions := outcomeRegions(answer)
			for i, a := range regions {
				for _, b := range slices.Concat(regions[:i], given) {
					if a.meets(b) {
						t.Fatalf("of %v the answer's %s shares memory with %s", c, a.name, b.name)
					}
				}
			}
		}
	}
}

func TestVotesOfListsThatShareMemory(t *testing.T) {
	for _, s := range sharingScribes(t) {
		for _, l := range []impl.Letter{askOf(2, 1, 5, 6, 4), askOf(2, 1, 9, 6, 4), voteOf(2, 1, 5, true), voteOf(2, 1, 9, false)} {
			checkStands(t, s, 5, 1)
			checkAsked(t, s, 5, 1, l)
			checkVoted(t, s, 5, 1, l)
		}
	}
}

// What one answers the next one is given, until one reigns; each answer stays.
func TestVotesAnswerMayBeTheNextArgument(t *testing.T) {
	for _, n := range counts() {
		for _, start := range []impl.Scribe{impl.NewScribe(), follower(t), stander(t)} {
			chief := stands(start, n, 0)
			was := []outcome{chief}
			kept := keepOutcomes(was)
			for _, l := range chief.letters {
				answer := asked(start, n, l.To, l)
				if len(answer.letters) != 1 || !answer.letters[0].Yes {
					t.Fatalf("%d does not vote: %v", l.To, answer)
				}
				checkVoted(t, chief.scribe, n, 0, answer.letters[0])
				chief = voted(chief.scribe, n, 0, answer.letters[0])
				was = append(was, answer, chief)
				kept = append(kept, keepOutcomes([]outcome{answer, chief})...)
			}
			if chief.scribe.Role != impl.RoReigns || !sameOutcomes(was, kept) {
				t.Fatalf("of %v comes %v, and %v, not %v", start, chief, was, kept)
			}
		}
	}
}
