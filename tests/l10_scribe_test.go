package tests

import (
	"math"
	"math/rand"
	"slices"
	"strconv"
	"testing"
	"unsafe"

	"loop.example/g00572/impl"
)

// Of a scribe of whom nothing is folded away the tests take Kept as the zero
// Book, since that is the Book behind nothing; whether another one is right
// there, the document does not say.

// orderedRoll is two Entries folded away, and behind them four by which a Book
// like aBook changes each time, but for the second one.
func orderedRoll(t *testing.T) impl.Roll {
	t.Helper()
	return impl.Roll{Base: 2, Reign: 1, List: []impl.Entry{entry(t, 1, 0, 1, "claim fir 3"), idle(2), entry(t, 2, 2, 7, "put fir 1.0.0 cone 3"), entry(t, 4, 1, 6, "fetch oak 0.5.0")}}
}

// otherBook is right, and behind no entries of orderedRoll.
func otherBook() impl.Book {
	return impl.Book{Shelf: shelfOfLength(4), Lasts: []impl.Last{lastWith(0, 3, impl.RpDone, "p1"), lastWith(2, 9, impl.RpOld, "")}}
}

func follower(t *testing.T) impl.Scribe {
	t.Helper()
	return impl.Scribe{Reign: 5, Vote: 2, Roll: orderedRoll(t), Kept: aBook(), Awake: true, Commit: 5, Now: otherBook()}
}

func stander(t *testing.T) impl.Scribe {
	t.Helper()
	s := follower(t)
	s.Role, s.Vote, s.Votes = 1, 1, 18
	return s
}

func ruler(t *testing.T, n int64) impl.Scribe {
	t.Helper()
	s := follower(t)
	s.Role, s.Vote = 2, 0
	s.Next, s.Match = []int64{7, 1, 5, 3, 7}[:n], []int64{6, 0, 4, 2, 6}[:n]
	return s
}

func sleeper(t *testing.T) impl.Scribe {
	t.Helper()
	s := follower(t)
	s.Awake, s.Commit, s.Now = false, 2, aBook()
	return s
}

// withoutRoll is s as it would be had nothing been ordered.
func withoutRoll(s impl.Scribe) impl.Scribe {
	s.Roll, s.Kept, s.Commit = impl.Roll{}, impl.Book{}, 0
	for i := range s.Next {
		s.Next[i], s.Match[i] = 1, 0
	}
	if !s.Awake {
		s.Now = impl.Book{}
	}
	return s
}

func withCommit(s impl.Scribe, commit int64) impl.Scribe {
	s.Commit = commit
	return s
}

// inEachRole is one of each Role who is Awake, and one who is not.
func inEachRole(t *testing.T, n int64) []impl.Scribe {
	t.Helper()
	return []impl.Scribe{follower(t), stander(t), ruler(t, n), sleeper(t)}
}

// longScribe has all there is room for.
func longScribe(t *testing.T, n int64) impl.Scribe {
	t.Helper()
	s := impl.Scribe{Reign: 1000, Vote: n - 1, Roll: impl.Roll{Base: 300, Reign: 1}, Kept: aBook(), Awake: true, Role: 2, Commit: 400, Now: impl.Book{Shelf: shelfOfLength(5), Lasts: lastsOf(0, 1, 2, 3)}}
	for i, o := range manyOrders(t, 100) {
		s.Roll.List = append(s.Roll.List, impl.Entry{Reign: int64(1 + i*10), Order: o})
	}
	s.Roll.List[99] = idle(1000)
	s.Next, s.Match = slices.Repeat([]int64{401}, int(n)), slices.Repeat([]int64{400}, int(n))
	return s
}

// someScribes is right ones, of n.
func someScribes(t *testing.T, n int64) []impl.Scribe {
	t.Helper()
	scribes := append(inEachRole(t, n), impl.NewScribe(), longScribe(t, n))
	for _, s := range inEachRole(t, n) {
		scribes = append(scribes, withoutRoll(s))
	}
	for commit := int64(2); commit <= 6; commit++ {
		scribes = append(scribes, withCommit(follower(t), commit), withCommit(ruler(t, n), commit))
	}
	empty := follower(t)
	empty.Next, empty.Match, empty.Roll.List, empty.Commit = []int64{}, []int64{}, []impl.Entry{}, 2
	asleep := longScribe(t, n)
	asleep.Awake, asleep.Role, asleep.Next, asleep.Match, asleep.Commit, asleep.Now = false, 0, nil, nil, 300, aBook()
	return append(scribes, empty, asleep)
}

// changedEach is each of these scribes with each of these changes alone.
func changedEach(scribes func() []impl.Scribe, changes ...func(*impl.Scribe)) []impl.Scribe {
	var changed []impl.Scribe
	for _, change := range changes {
		for _, s := range scribes() {
			change(&s)
			changed = append(changed, s)
		}
	}
	return changed
}

// wrongScribes is such with each thing that may be wrong, of n.
func wrongScribes(t *testing.T, n int64) []impl.Scribe {
	t.Helper()
	wrong := []impl.Scribe{{Awake: true, Vote: -2}, {Awake: true, Vote: n}, {Awake: true, Role: 1}, {Awake: true, Commit: 1}, {Awake: true, Votes: 1}, {Awake: true, Next: []int64{1}}}
	wrong = append(wrong, changedEach(func() []impl.Scribe { return inEachRole(t, n) },
		func(s *impl.Scribe) { s.Reign = -1 }, func(s *impl.Scribe) { s.Reign = 1001 }, func(s *impl.Scribe) { s.Reign = 3 }, func(s *impl.Scribe) { s.Reign = 0 },
		func(s *impl.Scribe) { s.Vote = -2 }, func(s *impl.Scribe) { s.Vote = n },
		func(s *impl.Scribe) { s.Roll.Base = 301 }, func(s *impl.Scribe) { s.Roll.Base = math.MaxInt64 }, func(s *impl.Scribe) { s.Roll.Reign = 2 }, func(s *impl.Scribe) { s.Roll.List[3].Reign = 6 }, func(s *impl.Scribe) { s.Roll.List[1].Order.Client = 4 },
		func(s *impl.Scribe) { s.Kept.Lasts = lastsOf(3, 1) }, func(s *impl.Scribe) { s.Kept.Shelf[1].Owner = 4 }, func(s *impl.Scribe) { s.Now.Lasts = lastsOf(0, 0) }, func(s *impl.Scribe) { s.Now.Shelf[0].Name = "Elm" },
		func(s *impl.Scribe) { s.Role = -1 }, func(s *impl.Scribe) { s.Role = 3 },
		func(s *impl.Scribe) { s.Commit = 1 }, func(s *impl.Scribe) { s.Commit = 7 }, func(s *impl.Scribe) { s.Votes = -1 }, func(s *impl.Scribe) { s.Votes = 32 },
		func(s *impl.Scribe) { s.Next = append(s.Next, 1) }, func(s *impl.Scribe) { s.Match = append(s.Match, 1) }, func(s *impl.Scribe) { s.Next, s.Match = append(s.Next, 1), append(s.Match, 1) },
	)...)
	wrong = append(wrong, changedEach(func() []impl.Scribe { return []impl.Scribe{ruler(t, n)} },
		func(s *impl.Scribe) { s.Next[n-1] = 0 }, func(s *impl.Scribe) { s.Next[0] = 8 }, func(s *impl.Scribe) { s.Match[n-1] = 7 }, func(s *impl.Scribe) { s.Match[0] = -1 },
		func(s *impl.Scribe) { s.Next = nil }, func(s *impl.Scribe) { s.Match = s.Match[1:] }, func(s *impl.Scribe) { s.Role = 0 }, func(s *impl.Scribe) { s.Role = 1 },
	)...)
	wrong = append(wrong, changedEach(func() []impl.Scribe { return []impl.Scribe{sleeper(t)} },
		func(s *impl.Scribe) { s.Role = 1 }, func(s *impl.Scribe) { s.Commit = 3 }, func(s *impl.Scribe) { s.Votes = 1 }, func(s *impl.Scribe) { s.Now = otherBook() }, func(s *impl.Scribe) { s.Now.Lasts = lastsOf(1, 3) },
	)...)
	return append(wrong, changedEach(func() []impl.Scribe { return []impl.Scribe{follower(t), stander(t), ruler(t, n)} },
		func(s *impl.Scribe) { s.Awake = false },
	)...)
}

func keepScribe(s impl.Scribe) impl.Scribe {
	s.Roll, s.Kept, s.Now = keepRoll(s.Roll), keepBook(s.Kept), keepBook(s.Now)
	s.Next, s.Match = slices.Clone(s.Next), slices.Clone(s.Match)
	return s
}

// sameScribe has no difference between an empty list and nil, as the document.
func sameScribe(a, b impl.Scribe) bool {
	numbers := func(s impl.Scribe) [4]int64 { return [4]int64{s.Reign, s.Vote, s.Role, s.Commit} }
	return numbers(a) == numbers(b) && a.Votes == b.Votes && a.Awake == b.Awake && sameRoll(a.Roll, b.Roll) && sameBook(a.Kept, b.Kept) && sameBook(a.Now, b.Now) && slices.Equal(a.Next, b.Next) && slices.Equal(a.Match, b.Match)
}

// The document's words once more, by another way than the program's: whom one
// may have voted for and where Commit may be are looked up, and each entry's
// Reign is asked.
func wantScribe(s impl.Scribe, n int64) bool {
	if n != 3 && n != 5 {
		return false
	}
	return wantWritten(s, n) && wantThought(s, n) && (s.Awake || wantForgotten(s))
}

func wantWritten(s impl.Scribe, n int64) bool {
	for _, e := range append([]impl.Entry{idle(s.Roll.Reign)}, s.Roll.List...) {
		if e.Reign > s.Reign {
			return false
		}
	}
	return s.Reign > -1 && s.Reign < 1001 && slices.Contains([]int64{-1, 0, 1, 2, 3, 4}[:n+1], s.Vote) && wantRoll(s.Roll) && wantBook(s.Kept)
}

func wantThought(s impl.Scribe, n int64) bool {
	if _, is := wantNumbered(s.Roll)[s.Commit]; !is || !wantSetOk(s.Votes) || !wantBook(s.Now) {
		return false
	}
	last, none := wantLastIn(s.Roll), len(s.Next)+len(s.Match) == 0
	switch s.Role {
	case 0:
		return none && s.Votes == 0
	case 1:
		return none && s.Reign != 0
	case 2:
		return s.Reign != 0 && wantNumbers(s.Next, n, 1, last+1) && wantNumbers(s.Match, n, 0, last)
	}
	return false
}

func wantNumbers(numbers []int64, n, least, most int64) bool {
	return len(numbers) == int(n) && slices.Min(numbers) >= least && slices.Max(numbers) <= most
}

func wantForgotten(s impl.Scribe) bool {
	return s.Role == 0 && s.Commit == s.Roll.Base && s.Votes == 0 && sameBook(s.Now, s.Kept)
}

func wantCaught(s impl.Scribe, n int64) impl.Scribe {
	if !wantScribe(s, n) {
		return impl.Scribe{}
	}
	s.Now = s.Kept
	for i := s.Roll.Base + 1; i <= s.Commit; i++ {
		s.Now, _ = wantObeyed(s.Now, wantNumbered(s.Roll)[i])
	}
	return s
}

func wantFollows(s impl.Scribe, n, reign int64) impl.Scribe {
	switch {
	case !wantScribe(s, n):
		return impl.Scribe{}
	case reign <= s.Reign || reign > 1000:
		return s
	}
	return impl.Scribe{Reign: reign, Vote: -1, Roll: s.Roll, Kept: s.Kept, Awake: s.Awake, Commit: s.Commit, Now: s.Now}
}

func checkScribeOk(t *testing.T, s impl.Scribe, n int64, want bool) {
	t.Helper()
	if wantScribe(s, n) != want {
		t.Fatalf("the test takes %v of %d otherwise", s, n)
	}
	if impl.ScribeOk(s, n) != want {
		t.Errorf("ScribeOk(%v, %d) is %v", s, n, !want)
	}
}

func checkCaught(t *testing.T, s impl.Scribe, n int64) {
	t.Helper()
	if got, want := impl.Caught(s, n), wantCaught(s, n); !sameScribe(got, want) {
		t.Fatalf("Caught(%v, %d) is %v, not %v", s, n, got, want)
	}
}

func checkFollows(t *testing.T, s impl.Scribe, n, reign int64) {
	t.Helper()
	if got, want := impl.Follows(s, n, reign), wantFollows(s, n, reign); !sameScribe(got, want) {
		t.Fatalf("Follows(%v, %d, %d) is %v, not %v", s, n, reign, got, want)
	}
}

// checkZero asks that nothing is answered but the zero Scribe.
func checkZero(t *testing.T, s impl.Scribe, n int64) {
	t.Helper()
	checkScribeOk(t, s, n, false)
	if got := impl.Caught(s, n); !sameScribe(got, impl.Scribe{}) {
		t.Errorf("Caught(%v, %d) is %v", s, n, got)
	}
	for _, reign := range []int64{-1, 0, 1, s.Reign, 6, 1000, 1001} {
		if got := impl.Follows(s, n, reign); !sameScribe(got, impl.Scribe{}) {
			t.Errorf("Follows(%v, %d, %d) is %v", s, n, reign, got)
		}
	}
}

func counts() []int64 { return []int64{3, 5} }

func TestRolesAsTold(t *testing.T) {
	if impl.RoFollows != 0 || impl.RoStands != 1 || impl.RoReigns != 2 {
		t.Error(impl.RoFollows, impl.RoStands, impl.RoReigns)
	}
}

// Promise 10: a new scribe is right.
func TestNewScribeAsTold(t *testing.T) {
	want := impl.Scribe{Awake: true, Vote: -1}
	if got := impl.NewScribe(); !sameScribe(got, want) {
		t.Errorf("NewScribe() is %v", got)
	}
	for n := int64(-3); n <= 8; n++ {
		checkScribeOk(t, impl.NewScribe(), n, n == 3 || n == 5)
	}
	for _, n := range farOff() {
		checkScribeOk(t, impl.NewScribe(), n, false)
	}
	changed := impl.NewScribe()
	changed.Vote, changed.Now.Lasts = 1, lastsOf(2)
	if got := impl.NewScribe(); !sameScribe(got, want) {
		t.Errorf("NewScribe() is %v, once one is changed", got)
	}
}

func TestScribeOkByCount(t *testing.T) {
	numbers := append(farOff(), -1, 0, 1, 2, 3, 4, 5, 6, 7)
	for _, n := range numbers {
		checkScribeOk(t, ruler(t, 3), n, n == 3)
		checkScribeOk(t, ruler(t, 5), n, n == 5)
		for _, s := range []impl.Scribe{follower(t), stander(t), sleeper(t)} {
			checkScribeOk(t, s, n, n == 3 || n == 5)
		}
	}
	for _, n := range counts() {
		for _, s := range someScribes(t, n) {
			checkScribeOk(t, s, n, true)
			checkScribeOk(t, s, n+1, false)
			checkScribeOk(t, s, n-1, false)
		}
		for _, s := range wrongScribes(t, n) {
			checkScribeOk(t, s, n, false)
		}
	}
}

func TestScribeOkAtEachReign(t *testing.T) {
	for _, n := range counts() {
		for _, reign := range append(wrongReigns(), 0, 1, 2, 500, 999, 1000) {
			for _, s := range inEachRole(t, n) {
				s = withoutRoll(s)
				s.Reign = reign
				least := min(s.Role, 1)
				checkScribeOk(t, s, n, reign >= least && reign <= 1000)
			}
		}
	}
}

// Who has no entry follows in Reign 0, and neither stands nor reigns there.
func TestScribeOkOfReignZero(t *testing.T) {
	for role := range int64(3) {
		s := impl.Scribe{Awake: true, Vote: -1, Role: role}
		if role == 2 {
			s.Next, s.Match = []int64{1, 1, 1}, []int64{0, 0, 0}
		}
		checkScribeOk(t, s, 3, role == 0)
		s.Reign = 1
		checkScribeOk(t, s, 3, true)
	}
}

func TestScribeOkAtEachVote(t *testing.T) {
	for _, n := range counts() {
		for _, vote := range append(farOff(), -3, -2, -1, 0, 1, 2, 3, 4, 5, 6) {
			for _, s := range append(inEachRole(t, n), impl.NewScribe()) {
				s.Vote = vote
				checkScribeOk(t, s, n, vote >= -1 && vote < n)
			}
		}
	}
}

func TestScribeOkOfRolls(t *testing.T) {
	for _, right := range []bool{true, false} {
		rolls := someRolls(t)
		if !right {
			rolls = wrongRolls(t)
		}
		for _, r := range rolls {
			for _, s := range []impl.Scribe{{Reign: 1000, Roll: r, Awake: true, Commit: r.Base}, {Reign: 1000, Roll: r, Commit: r.Base}, {Reign: 1000, Roll: r, Awake: true, Commit: r.Base + int64(len(r.List))}} {
				checkScribeOk(t, s, 3, right)
				checkScribeOk(t, s, 5, right)
			}
		}
	}
}

// No entry is of a later Reign, wherever it stands, and what is folded away
// is not, either.
func TestScribeOkOfEntriesOfALaterReign(t *testing.T) {
	for _, c := range []struct {
		roll  impl.Roll
		least int64
	}{
		{rollOf(0, 0), 0}, {rollOf(0, 0, 1), 1}, {rollOf(0, 0, 1, 1, 4), 4}, {rollOf(0, 0, 4, 4, 4), 4}, {rollOf(2, 3), 3}, {rollOf(2, 3, 3), 3}, {rollOf(2, 3, 3, 5), 5}, {rollOf(2, 3, 5, 5), 5}, {rollOf(300, 6), 6}, {rollOf(1, 1, steps(100, 20, 2)...), 6},
	} {
		for reign := range int64(9) {
			for _, awake := range []bool{true, false} {
				s := impl.Scribe{Reign: reign, Roll: c.roll, Awake: awake, Commit: c.roll.Base}
				checkScribeOk(t, s, 5, reign >= c.least)
			}
		}
	}
	at := impl.Scribe{Reign: 999, Roll: rollOf(0, 0, 1000), Awake: true}
	checkScribeOk(t, at, 3, false)
	at.Reign = 1000
	checkScribeOk(t, at, 3, true)
}

func TestScribeOkOfBooks(t *testing.T) {
	for _, b := range someBooks() {
		for _, s := range inEachRole(t, 5) {
			s.Kept = b
			if !s.Awake {
				s.Now = b
			}
			checkScribeOk(t, s, 5, true)
		}
	}
	for _, b := range wrongBooks() {
		for _, s := range inEachRole(t, 5) {
			kept, now, both := s, s, s
			kept.Kept, now.Now, both.Kept, both.Now = b, b, b, b
			checkScribeOk(t, kept, 5, false)
			checkScribeOk(t, now, 5, false)
			checkScribeOk(t, both, 5, false)
		}
	}
}

// Of Now of who is Awake nothing is asked but that it is a right Book.
func TestScribeOkOfAnyNowOfWhoIsAwake(t *testing.T) {
	for _, b := range append(someBooks(), aBook(), otherBook()) {
		for commit := int64(2); commit <= 6; commit++ {
			for _, s := range []impl.Scribe{follower(t), stander(t), ruler(t, 3)} {
				s.Now, s.Commit = b, commit
				checkScribeOk(t, s, 3, true)
			}
		}
	}
}

func TestScribeOkOfRoles(t *testing.T) {
	for _, role := range append(farOff(), -1, 0, 1, 2, 3, 4) {
		plain, reigning := follower(t), ruler(t, 3)
		plain.Role, reigning.Role = role, role
		checkScribeOk(t, plain, 3, role == 0 || role == 1)
		checkScribeOk(t, reigning, 3, role == 2)
	}
}

func TestScribeOkAtEachCommit(t *testing.T) {
	for commit := int64(-2); commit <= 9; commit++ {
		for _, s := range []impl.Scribe{follower(t), stander(t), ruler(t, 3)} {
			checkScribeOk(t, withCommit(s, commit), 3, commit >= 2 && commit <= 6)
		}
		checkScribeOk(t, withCommit(sleeper(t), commit), 3, commit == 2)
		checkScribeOk(t, withCommit(impl.NewScribe(), commit), 3, commit == 0)
	}
	for _, r := range someRolls(t) {
		for _, commit := range numbersNear(r) {
			s := impl.Scribe{Reign: 1000, Roll: r, Awake: true, Commit: commit}
			checkScribeOk(t, s, 5, commit >= r.Base && commit <= r.Base+int64(len(r.List)))
			s.Awake = false
			checkScribeOk(t, s, 5, commit == r.Base)
		}
	}
}

// A set is one of 0 to 31 also where there are 3 scribes.
func TestScribeOkAtEachSet(t *testing.T) {
	sets := farOff()
	for set := int64(-3); set <= 34; set++ {
		sets = append(sets, set)
	}
	for _, n := range counts() {
		for _, set := range sets {
			for _, s := range inEachRole(t, n) {
				s.Votes = set
				checkScribeOk(t, s, n, set == 0 || s.Role != 0 && set > 0 && set < 32)
			}
		}
	}
}

func TestScribeOkByLengthOfNextAndMatch(t *testing.T) {
	for _, n := range counts() {
		for next := range 8 {
			for match := range 8 {
				s := ruler(t, n)
				s.Next, s.Match = slices.Repeat([]int64{3}, next), slices.Repeat([]int64{2}, match)
				checkScribeOk(t, s, n, next == int(n) && match == int(n))
				for role := range int64(2) {
					s.Role = role
					checkScribeOk(t, s, n, next+match == 0)
				}
			}
		}
		long := ruler(t, n)
		long.Next = slices.Repeat([]int64{1}, 1<<16)
		checkScribeOk(t, long, n, false)
	}
}

// Each number of Next and Match, at each place, at its limits and past them:
// LastIn is 6.
func TestScribeOkAtEachNumberOfNextAndMatch(t *testing.T) {
	for _, n := range counts() {
		for at := range n {
			for _, number := range append(farOff(), -2, -1, 0, 1, 2, 3, 4, 5, 6, 7, 8, 9) {
				next, match := ruler(t, n), ruler(t, n)
				next.Next[at], match.Match[at] = number, number
				checkScribeOk(t, next, n, number >= 1 && number <= 7)
				checkScribeOk(t, match, n, number >= 0 && number <= 6)
			}
		}
	}
	full := longScribe(t, 5)
	full.Next[2], full.Match[3] = 402, 400
	checkScribeOk(t, full, 5, false)
	full.Next[2], full.Match[3] = 401, 401
	checkScribeOk(t, full, 5, false)
	full.Next[2], full.Match[3] = 1, 0
	checkScribeOk(t, full, 5, true)
}

func TestScribeOkOfNumbersOfWhoDoesNotReign(t *testing.T) {
	for _, s := range []impl.Scribe{follower(t), stander(t), sleeper(t), impl.NewScribe()} {
		next, match, both := s, s, s
		next.Next, match.Match, both.Next, both.Match = []int64{1}, []int64{0}, []int64{1, 1, 1}, []int64{0, 0, 0}
		checkScribeOk(t, next, 3, false)
		checkScribeOk(t, match, 3, false)
		checkScribeOk(t, both, 3, false)
		both.Next, both.Match = make([]int64, 0, 3), []int64{}
		checkScribeOk(t, both, 3, true)
	}
}

func TestScribeOkOfWhoSleeps(t *testing.T) {
	for _, s := range []impl.Scribe{stander(t), ruler(t, 3)} {
		s.Votes, s.Commit, s.Now = 0, 2, aBook()
		checkScribeOk(t, s, 3, true)
		s.Awake = false
		checkScribeOk(t, s, 3, false)
	}
	// It remembers whom it voted for.
	for vote := int64(-1); vote < 3; vote++ {
		s := sleeper(t)
		s.Vote = vote
		checkScribeOk(t, s, 3, true)
	}
	for _, b := range someBooks() {
		s := sleeper(t)
		s.Kept = b
		checkScribeOk(t, s, 3, sameBook(b, aBook()))
		s.Now = keepBook(b)
		checkScribeOk(t, s, 3, true)
	}
	// An empty list and nil are the same.
	s := impl.Scribe{Vote: -1, Now: impl.Book{Shelf: []impl.Work{}, Lasts: []impl.Last{}}}
	checkScribeOk(t, s, 3, true)
	s.Roll, s.Reign = rollOf(1, 1), 1
	s.Commit = 1
	s.Kept.Shelf, s.Now.Shelf = []impl.Work{named("oak", 1)}, []impl.Work{{Name: "oak", Owner: 1, Copies: []impl.Copy{}}}
	checkScribeOk(t, s, 3, true)
}

// Each thing in which Now may be unlike Kept.
func TestScribeOkOfNowUnlikeKept(t *testing.T) {
	for _, change := range []func(*impl.Book){
		func(b *impl.Book) { b.Shelf[0].Name = "ash" },
		func(b *impl.Book) { b.Shelf[2].Owner = 0 },
		func(b *impl.Book) { b.Shelf[1].Copies[3].Edition.Patch = 3 },
		func(b *impl.Book) { b.Shelf[1].Copies[0].Edition.Minor = 4 },
		func(b *impl.Book) { b.Shelf[2].Copies[7].Page = "leaf" },
		func(b *impl.Book) { b.Shelf[1].Copies[0].Hidden = true },
		func(b *impl.Book) { b.Shelf[1].Copies = b.Shelf[1].Copies[:3] },
		func(b *impl.Book) { b.Shelf[0].Copies = fourCopies().Copies },
		func(b *impl.Book) { b.Shelf = b.Shelf[:2] },
		func(b *impl.Book) { b.Shelf = b.Shelf[1:] },
		func(b *impl.Book) { b.Shelf = append(b.Shelf, named("yewa", 1)) },
		func(b *impl.Book) { b.Shelf = nil },
		func(b *impl.Book) { b.Lasts[0].Client = 0 },
		func(b *impl.Book) { b.Lasts[1].Seq = 999 },
		func(b *impl.Book) { b.Lasts[1].Reply.Code = impl.RpDone },
		func(b *impl.Book) { b.Lasts[0].Reply.Page = "leaf" },
		func(b *impl.Book) { b.Lasts = b.Lasts[:1] },
		func(b *impl.Book) { b.Lasts = append(b.Lasts[:1], lastWith(2, 1, 0, ""), b.Lasts[1]) },
		func(b *impl.Book) { b.Lasts = nil },
	} {
		now, kept := sleeper(t), sleeper(t)
		change(&now.Now)
		change(&kept.Kept)
		checkScribeOk(t, now, 3, false)
		checkScribeOk(t, kept, 3, false)
		now.Awake, kept.Awake = true, true
		checkScribeOk(t, now, 3, true)
		checkScribeOk(t, kept, 3, true)
	}
}

func TestCaughtAsTold(t *testing.T) {
	const three = "elm@0/oak@2 0.5.0=root 0.7.1=bark* 1.0.0= 1.0.2=leaf*/yew@1 0.0.1=pa 0.0.3=pb 0.0.5=pc 0.0.7=pd 0.0.9=pe 0.0.11=pf 0.0.13=pg 0.0.15=ph"
	claimed, put := "elm@0/fir@3/"+three[len("elm@0/"):], "elm@0/fir@3 1.0.0=cone/"+three[len("elm@0/"):]
	lasts := aBook().Lasts
	first, second := lastWith(0, 1, 0, ""), lastWith(2, 7, 0, "")
	for _, c := range []struct {
		commit int64
		shown  string
		lasts  []impl.Last
	}{
		{2, three, lasts}, {3, claimed, []impl.Last{first, lasts[0], lasts[1]}}, {4, claimed, []impl.Last{first, lasts[0], lasts[1]}},
		{5, put, []impl.Last{first, lasts[0], second, lasts[1]}}, {6, put, []impl.Last{first, lastWith(1, 6, 0, "root"), second, lasts[1]}},
	} {
		for _, s := range []impl.Scribe{follower(t), stander(t), ruler(t, 3)} {
			s.Commit = c.commit
			got := impl.Caught(s, 3)
			if impl.ShowShelf(got.Now.Shelf) != c.shown || !slices.Equal(got.Now.Lasts, c.lasts) {
				t.Errorf("Caught up to %d, Now is %v", c.commit, got.Now)
			}
			if got.Now = s.Now; !sameScribe(got, s) {
				t.Errorf("Caught(%v) changes more than Now: %v", s, got)
			}
			checkCaught(t, s, 3)
		}
	}
}

// Caught begins with Kept, whatever Now is, and once more it is the same.
func TestCaughtOfAnyNow(t *testing.T) {
	for _, n := range counts() {
		for _, s := range someScribes(t, n) {
			want := impl.Caught(s, n)
			if again := impl.Caught(want, n); !sameScribe(again, want) || !impl.ScribeOk(want, n) {
				t.Fatalf("Caught(%v) is %v, once more %v", s, want, again)
			}
			checkCaught(t, s, n)
			if !s.Awake {
				continue
			}
			for _, b := range []impl.Book{{}, aBook(), otherBook(), {Shelf: shelfOfLength(5), Lasts: lastsOf(0, 1, 2, 3)}} {
				if s.Now = b; !sameScribe(impl.Caught(s, n), want) {
					t.Fatalf("Caught(%v) is %v, not %v", s, impl.Caught(s, n), want)
				}
			}
		}
	}
}

func TestCaughtWhereNothingIsDone(t *testing.T) {
	for _, b := range someBooks() {
		for _, s := range inEachRole(t, 3) {
			s.Kept, s.Commit = b, 2
			if !s.Awake {
				s.Now = b
			}
			if got := impl.Caught(s, 3); !sameBook(got.Now, b) || !sameBook(got.Kept, b) || got.Commit != 2 {
				t.Errorf("Caught(%v) is %v", s, got)
			}
		}
	}
	for _, s := range append(inEachRole(t, 3), impl.NewScribe()) {
		if got := impl.Caught(withoutRoll(s), 3); !sameBook(got.Now, impl.Book{}) || !sameBook(got.Kept, impl.Book{}) {
			t.Errorf("Caught(%v) is %v", withoutRoll(s), got)
		}
	}
	if got := impl.Caught(sleeper(t), 3); !sameScribe(got, sleeper(t)) {
		t.Errorf("Caught of who is not Awake is %v", got)
	}
}

// Up to the next entry, Now is as the one entry more is obeyed.
func TestCaughtUpToEachCommit(t *testing.T) {
	s := longScribe(t, 5)
	now := s.Kept
	for s.Commit = 300; s.Commit <= 400; s.Commit++ {
		if s.Commit > 300 {
			now, _ = impl.Obeyed(now, s.Roll.List[s.Commit-301])
		}
		got := impl.Caught(s, 5)
		if !sameBook(got.Now, now) || !sameBook(got.Kept, aBook()) {
			t.Fatalf("Caught up to %d is %v, not %v", s.Commit, got.Now, now)
		}
		if s.Commit%10 == 0 {
			checkCaught(t, s, 5)
		}
	}
	if sameBook(now, aBook()) {
		t.Error("nothing is ordered")
	}
}

func TestFollowsAsTold(t *testing.T) {
	for _, n := range counts() {
		for _, s := range someScribes(t, n) {
			for _, reign := range []int64{math.MinInt64, -1, 0, 1, 4, 5, 6, 999, 1000, 1001, 1002, 1 << 32, math.MaxInt64, s.Reign - 1, s.Reign, s.Reign + 1} {
				got := impl.Follows(s, n, reign)
				if !impl.ScribeOk(got, n) {
					t.Fatalf("Follows(%v, %d, %d) is %v", s, n, reign, got)
				}
				checkFollows(t, s, n, reign)
			}
		}
	}
}

// Promise 10: a greater reign makes it forget its vote, and what it thought
// but for Commit and Now.
func TestFollowsOfAGreaterReign(t *testing.T) {
	for _, s := range inEachRole(t, 5) {
		for _, reign := range []int64{6, 7, 500, 999, 1000} {
			got := impl.Follows(s, 5, reign)
			if got.Reign != reign || got.Vote != -1 || got.Role != impl.RoFollows || got.Votes != 0 || len(got.Next) != 0 || len(got.Match) != 0 {
				t.Errorf("Follows(%v, 5, %d) is %v", s, reign, got)
			}
			if got.Awake != s.Awake || got.Commit != s.Commit || !sameRoll(got.Roll, s.Roll) || !sameBook(got.Kept, s.Kept) || !sameBook(got.Now, s.Now) {
				t.Errorf("Follows(%v, 5, %d) has changed what stays: %v", s, reign, got)
			}
		}
	}
}

// Promise 10: of no other reign it forgets its vote, or anything.
func TestFollowsOfNoGreaterReign(t *testing.T) {
	for vote := int64(-1); vote < 5; vote++ {
		for _, s := range append(inEachRole(t, 5), longScribe(t, 5)) {
			s.Vote = vote
			for _, reign := range []int64{math.MinInt64, -1000, -1, 0, 1, s.Reign - 1, s.Reign, 1001, 1002, 1 << 32, math.MaxInt64} {
				if got := impl.Follows(s, 5, reign); got.Vote != vote || !sameScribe(got, s) {
					t.Errorf("Follows(%v, 5, %d) is %v", s, reign, got)
				}
			}
		}
	}
}

// Promise 10, of many reigns one after the other.
func TestFollowsAgainAndAgain(t *testing.T) {
	r := rand.New(rand.NewSource(10))
	forgot, stayed := 0, 0
	for range 40 {
		s := inEachRole(t, 5)[r.Intn(4)]
		for range 60 {
			s.Vote = r.Int63n(6) - 1
			reign := s.Reign + r.Int63n(60) - 30
			got := impl.Follows(s, 5, reign)
			switch {
			case reign > s.Reign && reign <= 1000:
				if forgot++; got.Reign != reign || got.Vote != -1 {
					t.Fatalf("Follows(%v, 5, %d) is %v", s, reign, got)
				}
			default:
				if stayed++; !sameScribe(got, s) {
					t.Fatalf("Follows(%v, 5, %d) is %v", s, reign, got)
				}
			}
			checkFollows(t, s, 5, reign)
			s = got
		}
	}
	if forgot < 200 || stayed < 200 {
		t.Errorf("%d and %d", forgot, stayed)
	}
}

func TestScribesOfWhatIsNotScribeOk(t *testing.T) {
	for _, n := range counts() {
		for _, s := range wrongScribes(t, n) {
			checkZero(t, s, n)
		}
		for _, s := range someScribes(t, n) {
			for _, none := range []int64{-3, 0, 1, 2, 4, 6, math.MinInt64, math.MaxInt64} {
				checkZero(t, s, none)
			}
		}
	}
	checkZero(t, ruler(t, 3), 5)
	checkZero(t, ruler(t, 5), 3)
}

// scribeNumbers is all numbers of a scribe, but for those of its lists.
func scribeNumbers(s *impl.Scribe) []*int64 {
	return []*int64{&s.Reign, &s.Vote, &s.Role, &s.Commit, &s.Votes, &s.Roll.Base, &s.Roll.Reign}
}

// manyScribes is right ones in which some things are changed at random.
func manyScribes(t *testing.T, r *rand.Rand, n int64, howMany int) []impl.Scribe {
	t.Helper()
	near := []int64{-2, -1, 0, 1, 2, 3, 4, 5, 6, 7, 8, 30, 31, 32, 300, 301, 1000, 1001}
	books := append(someBooks(), wrongBooks()...)
	first := someScribes(t, n)
	var scribes []impl.Scribe
	for range howMany {
		s := keepScribe(first[r.Intn(len(first))])
		for range r.Intn(3) {
			*scribeNumbers(&s)[r.Intn(7)] = near[r.Intn(len(near))]
		}
		switch r.Intn(8) {
		case 0:
			s.Awake = !s.Awake
		case 1:
			s.Next, s.Match = s.Match, s.Next
		case 2:
			s.Kept = books[r.Intn(len(books))]
			s.Now = s.Kept
		case 3:
			s.Roll = impl.Roll{Base: s.Roll.Base, Reign: s.Roll.Reign, List: told(someReigns(r, r.Intn(8), max(1, s.Roll.Reign))...)}
		}
		if s.Roll.Base == 0 {
			s.Kept = impl.Book{}
		}
		scribes = append(scribes, s)
	}
	return scribes
}

func TestScribesOfManyKinds(t *testing.T) {
	r := rand.New(rand.NewSource(11))
	right := 0
	for _, n := range counts() {
		for _, s := range manyScribes(t, r, n, 2500) {
			if wantScribe(s, n) {
				right++
			}
			checkScribeOk(t, s, n, wantScribe(s, n))
			checkCaught(t, s, n)
			checkFollows(t, s, n, s.Reign+r.Int63n(5)-2)
		}
	}
	if right < 1000 || right > 4500 {
		t.Errorf("%d are right", right)
	}
}

// Promise 21, of this chapter: each one answers at every argument, as the
// document tells.
func TestScribesAnswerAtEveryArgument(t *testing.T) {
	numbers := append(farOff(), -2, -1, 0, 1, 2, 3, 4, 5, 6, 31, 300, 1000, 1001)
	for _, number := range numbers {
		for at := range scribeNumbers(&impl.Scribe{}) {
			for _, s := range inEachRole(t, 3) {
				*scribeNumbers(&s)[at] = number
				checkScribeOk(t, s, 3, wantScribe(s, 3))
				checkCaught(t, s, 3)
				checkFollows(t, s, 3, number)
			}
		}
		for _, s := range inEachRole(t, 5) {
			checkCaught(t, s, number)
			checkFollows(t, s, number, 9)
			checkFollows(t, s, 5, number)
		}
		var s impl.Scribe
		for at := range scribeNumbers(&s) {
			*scribeNumbers(&s)[at] = number
			checkCaught(t, s, 3)
			checkFollows(t, s, 5, number)
		}
	}
	texts := someTexts()
	for i := 0; i < len(texts); i += 37 {
		entries, kept, now := follower(t), follower(t), sleeper(t)
		entries.Roll.List[0].Order.Deed.Name = texts[i]
		kept.Kept.Shelf[0].Name = texts[i]
		now.Now.Lasts[0].Reply.Page = texts[i]
		for _, s := range []impl.Scribe{entries, kept, now} {
			checkScribeOk(t, s, 5, wantScribe(s, 5))
			checkCaught(t, s, 5)
			checkFollows(t, s, 5, 8)
		}
	}
}

// A scribeView is a scribe whose texts and lists the test can change, with
// spare room behind each.
type scribeView struct {
	scribe impl.Scribe
	roll   entriesView
	kept   bookView
	now    bookView
	next   []int64
	match  []int64
}

func viewedScribe(s impl.Scribe) scribeView {
	v := scribeView{roll: viewedEntries(s.Roll.List), kept: viewedBook(s.Kept), now: viewedBook(s.Now)}
	v.next, v.match = append(slices.Clone(s.Next), 71, 72, 73), append(slices.Clone(s.Match), 81, 82, 83)
	s.Roll.List, s.Kept, s.Now = v.roll.entries, v.kept.book, v.now.book
	s.Next, s.Match = v.next[:len(s.Next)], v.match[:len(s.Match)]
	v.scribe = s
	return v
}

// shown is all that is in its lists, their spare room too, in memory of its
// own.
func (v scribeView) shown() string {
	text := v.roll.shown() + "|" + v.kept.shown() + "|" + v.now.shown()
	for _, number := range slices.Concat(v.next, v.match) {
		text += "|" + strconv.FormatInt(number, 10)
	}
	return text
}

func (v scribeView) spoil() {
	v.roll.spoil()
	v.kept.spoil()
	v.now.spoil()
	clear(v.next)
	clear(v.match)
}

// scribeAnswers is of Caught, of Follows where it does something and of
// Follows where it does nothing.
func scribeAnswers(s impl.Scribe, n int64) []impl.Scribe {
	return []impl.Scribe{impl.Caught(s, n), impl.Follows(s, n, 900), impl.Follows(s, n, 0)}
}

func wantScribeAnswers(s impl.Scribe, n int64) []impl.Scribe {
	return []impl.Scribe{wantCaught(s, n), wantFollows(s, n, 900), wantFollows(s, n, 0)}
}

func keepScribes(scribes []impl.Scribe) []impl.Scribe {
	var kept []impl.Scribe
	for _, s := range scribes {
		kept = append(kept, keepScribe(s))
	}
	return kept
}

func sameScribes(a, b []impl.Scribe) bool { return slices.EqualFunc(a, b, sameScribe) }

// clearScribe clears each list of it, its spare room too.
func clearScribe(s impl.Scribe) {
	clearBook(s.Kept)
	clearBook(s.Now)
	clear(s.Roll.List[:cap(s.Roll.List)])
	clear(s.Next[:cap(s.Next)])
	clear(s.Match[:cap(s.Match)])
}

func memoryScribes(t *testing.T) []impl.Scribe {
	t.Helper()
	return append(someScribes(t, 5), wrongScribes(t, 5)...)
}

// Promise 21, of this chapter: arguments stay, their spare room too, and an
// answer is the same when they are changed behind it.
func TestScribesKeepTheirArguments(t *testing.T) {
	for _, s := range memoryScribes(t) {
		want := keepScribes(wantScribeAnswers(keepScribe(s), 5))
		v := viewedScribe(s)
		before := v.shown()
		got := scribeAnswers(v.scribe, 5)
		impl.ScribeOk(v.scribe, 5)
		if v.shown() != before {
			t.Fatalf("%s is written into: %s", before, v.shown())
		}
		v.spoil()
		if !sameScribes(got, want) {
			t.Fatalf("of %v an answer shares its memory: %v, not %v", s, got, want)
		}
	}
}

// Promise 21, of this chapter: what is changed in an answer, or behind it in
// its spare room, is changed neither in the argument nor in another answer.
func TestScribesAnswerAnewEachTime(t *testing.T) {
	for _, s := range memoryScribes(t) {
		v := viewedScribe(s)
		before := v.shown()
		first := scribeAnswers(v.scribe, 5)
		want := keepScribes(first)
		second := scribeAnswers(v.scribe, 5)
		for k, answer := range first {
			clearScribe(answer)
			if !sameScribes(first[k+1:], want[k+1:]) {
				t.Fatalf("of %v, a change of answer %d changes another: %v", s, k, first)
			}
		}
		if v.shown() != before {
			t.Fatalf("a change of an answer changes the argument: %s, not %s", v.shown(), before)
		}
		if third := scribeAnswers(v.scribe, 5); !sameScribes(second, want) || !sameScribes(third, want) {
			t.Fatalf("of %v, a change of one answer changes another: %v, %v", s, second, third)
		}
	}
}

// A region is the memory of a list, its spare room too, or of a text.
type region struct {
	name string
	at   unsafe.Pointer
	size uintptr
}

func listRegion[T any](name string, list []T) region {
	var one T
	return region{name, unsafe.Pointer(unsafe.SliceData(list)), uintptr(cap(list)) * unsafe.Sizeof(one)}
}

func textRegion(name, text string) region {
	return region{name, unsafe.Pointer(unsafe.StringData(text)), uintptr(len(text))}
}

func (a region) meets(b region) bool {
	from, other := uintptr(a.at), uintptr(b.at)
	return a.size > 0 && b.size > 0 && from < other+b.size && other < from+a.size
}

func bookRegions(name string, b impl.Book) []region {
	regions := []region{listRegion(name+".Shelf", b.Shelf), listRegion(name+".Lasts", b.Lasts)}
	for _, w := range b.Shelf {
		regions = append(regions, textRegion(name+" Name "+w.Name, w.Name), listRegion(name+" Copies of "+w.Name, w.Copies))
		for _, c := range w.Copies {
			regions = append(regions, textRegion(name+" Page of "+w.Name, c.Page))
		}
	}
	for _, l := range b.Lasts {
		regions = append(regions, textRegion(name+" Page of a Last", l.Reply.Page))
	}
	return regions
}

func scribeRegions(s impl.Scribe) []region {
	regions := append(bookRegions("Kept", s.Kept), bookRegions("Now", s.Now)...)
	regions = append(regions, listRegion("Next", s.Next), listRegion("Match", s.Match), listRegion("List", s.Roll.List))
	for i := range s.Roll.List {
		for _, text := range textsIn(&s.Roll.List[i]) {
			regions = append(regions, textRegion("a text of List", *text))
		}
	}
	return regions
}

// sharingScribes have lists that share memory: Kept and Now, Next and Match,
// and Copies of several Works.
func sharingScribes(t *testing.T) []impl.Scribe {
	t.Helper()
	copies := workOfLength(6).Copies
	shared := impl.Book{Shelf: []impl.Work{named("elm", 0, copies[:3]...), named("oak", 2, copies[:5]...), named("yew", 1, copies...)}, Lasts: lastsOf(0, 2)}
	one, two, three := ruler(t, 5), sleeper(t), follower(t)
	one.Kept, one.Now = shared, shared
	one.Match = one.Next[:5]
	one.Next[0], one.Next[4] = 6, 6
	two.Now = two.Kept
	three.Kept, three.Now = shared, impl.Book{Shelf: shared.Shelf[:2], Lasts: shared.Lasts[:1]}
	for _, s := range []impl.Scribe{one, two, three} {
		checkScribeOk(t, s, 5, true)
	}
	return []impl.Scribe{one, two, three}
}

// Promise 21, of this chapter: no list of an answer shares memory with the
// argument or with another list of the answer, and no text does; not even
// where two lists of the argument do.
func TestScribesListsShareNoMemory(t *testing.T) {
	for _, s := range append(memoryScribes(t), sharingScribes(t)...) {
		given := scribeRegions(s)
		for _, answer := range scribeAnswers(s, 5) {
			regions := scribeRegions(answer)
			for i, a := range regions {
				for _, b := range regions[:i] {
					if a.meets(b) {
						t.Fatalf("of %v the answer's %s and %s share memory", s, a.name, b.name)
					}
				}
				for _, b := range given {
					if a.meets(b) {
						t.Fatalf("the answer's %s shares memory with %s of %v", a.name, b.name, s)
					}
				}
			}
		}
	}
}

func TestScribesAnswersOfListsThatShareMemory(t *testing.T) {
	for _, s := range sharingScribes(t) {
		want := keepScribes(wantScribeAnswers(s, 5))
		if got := scribeAnswers(s, 5); !sameScribes(got, want) {
			t.Errorf("of %v the answers are %v, not %v", s, got, want)
		}
	}
}

func TestScribesAnswerMayBeTheNextArgument(t *testing.T) {
	for _, s := range someScribes(t, 5) {
		one := impl.Caught(s, 5)
		kept := keepScribe(one)
		two := impl.Follows(one, 5, 1000)
		keptTwo := keepScribe(two)
		for commit := two.Roll.Base; commit <= two.Roll.Base+min(4, int64(len(two.Roll.List))); commit++ {
			if two.Awake {
				checkCaught(t, withCommit(two, commit), 5)
			}
			checkFollows(t, one, 5, commit)
			checkCaught(t, two, 5)
		}
		if !sameScribe(one, kept) || !sameScribe(two, keptTwo) {
			t.Fatalf("they are changed: %v, %v", one, two)
		}
	}
}
