package tests

import (
	"math"
	"math/rand"
	"slices"
	"testing"
	"unsafe"

	"loop.example/g00572/impl"
)

// placed is a right Entry that tells whose list it is of, and its place there.
func placed(reign, client int64, place int) impl.Entry {
	return impl.Entry{Reign: reign, Order: impl.Order{Client: client, Seq: int64(1 + place), Deed: impl.Deed{Kind: 1, Name: "oak", Who: client}}}
}

func placedAll(client int64, reigns []int64) []impl.Entry {
	var entries []impl.Entry
	for i, reign := range reigns {
		entries = append(entries, placed(reign, client, i))
	}
	return entries
}

// rollOf has Entries of client 1, told such of client 2; so it is seen which
// of two of one Reign is there.
func rollOf(base, reign int64, reigns ...int64) impl.Roll {
	return impl.Roll{Base: base, Reign: reign, List: placedAll(1, reigns)}
}

func told(reigns ...int64) []impl.Entry { return placedAll(2, reigns) }

// steps is n Reigns that rise by one at each so many.
func steps(n, each int, first int64) []int64 {
	var reigns []int64
	for i := range n {
		reigns = append(reigns, first+int64(i/each))
	}
	return reigns
}

// sameRoll has no difference between an empty list and nil, as the document.
func sameRoll(a, b impl.Roll) bool {
	return a.Base == b.Base && a.Reign == b.Reign && slices.Equal(a.List, b.List)
}

func keepEntries(entries []impl.Entry) []impl.Entry {
	var kept []impl.Entry
	for _, e := range entries {
		for _, s := range textsIn(&e) {
			*s = string([]byte(*s))
		}
		kept = append(kept, e)
	}
	return kept
}

func keepRoll(r impl.Roll) impl.Roll {
	r.List = keepEntries(r.List)
	return r
}

// The document's words once more, by another way than the program's: each
// entry of a right Roll by its number, that of Base with its Reign alone.
func wantNumbered(r impl.Roll) map[int64]impl.Entry {
	numbered := map[int64]impl.Entry{r.Base: {Reign: r.Reign}}
	for _, e := range r.List {
		numbered[r.Base+int64(len(numbered))] = e
	}
	return numbered
}

func wantRoll(r impl.Roll) bool {
	if r.Base < 0 || r.Base > 300 || len(r.List) > 100 || (r.Base == 0) != (r.Reign == 0) {
		return false
	}
	if r.Base > 0 && !wantEntry(idle(r.Reign)) {
		return false
	}
	reigns := []int64{r.Reign}
	for _, e := range r.List {
		if !wantEntry(e) {
			return false
		}
		reigns = append(reigns, e.Reign)
	}
	return slices.IsSorted(reigns)
}

func wantLastIn(r impl.Roll) int64 {
	if !wantRoll(r) {
		return -1
	}
	return r.Base + int64(len(r.List))
}

func wantReignAt(r impl.Roll, i int64) int64 {
	if e, is := wantNumbered(r)[i]; is && wantRoll(r) {
		return e.Reign
	}
	return -1
}

func wantEntryAt(r impl.Roll, i int64) (impl.Entry, bool) {
	if e, is := wantNumbered(r)[i]; is && i != r.Base && wantRoll(r) {
		return e, true
	}
	return impl.Entry{}, false
}

func wantTail(r impl.Roll, from int64) []impl.Entry {
	if !wantRoll(r) || from <= r.Base {
		return nil
	}
	var tail []impl.Entry
	numbered := wantNumbered(r)
	for e, is := numbered[from]; is; e, is = numbered[from] {
		tail = append(tail, e)
		from++
	}
	return tail
}

func wantJoined(r impl.Roll, prev, reign int64, entries []impl.Entry) (impl.Roll, bool) {
	if !wantRoll(r) {
		return impl.Roll{}, false
	}
	there := wantNumbered(r)
	given := map[int64]impl.Entry{}
	for k, e := range entries {
		given[prev+1+int64(k)] = e
	}
	ahead, is := there[prev]
	if prev >= 0 && prev < r.Base {
		if prev+int64(len(entries)) <= r.Base {
			return r, true
		}
		is, ahead, reign = true, given[r.Base], r.Reign
	}
	if !is || ahead.Reign != reign {
		return r, false
	}
	out := impl.Roll{Base: r.Base, Reign: r.Reign}
	for i, taken := r.Base+1, false; ; i++ {
		old, isOld := there[i]
		e, isGiven := given[i]
		taken = taken || isOld && isGiven && old.Reign != e.Reign
		switch {
		case isOld && !taken:
			out.List = append(out.List, old)
		case isGiven:
			out.List = append(out.List, e)
		case wantRoll(out):
			return out, true
		default:
			return r, false
		}
	}
}

func wantCut(r impl.Roll, i int64) (impl.Roll, bool) {
	if !wantRoll(r) {
		return impl.Roll{}, false
	}
	e, is := wantNumbered(r)[i]
	if !is || i > 300 {
		return r, false
	}
	return impl.Roll{Base: i, Reign: e.Reign, List: wantTail(r, i+1)}, true
}

func wantNewer(lastA, reignA, lastB, reignB int64) bool {
	if reignA != reignB {
		return reignA > reignB
	}
	return lastA >= lastB
}

// standing is what stands from that number on in the List of any Roll. The
// document does not say whether a Roll that is not right has entries for
// ReignAt and EntryAt; the tests take that it has none, and that it has these.
// For Tail they take these where LastIn of -1 leaves room for it.
func standing(r impl.Roll, from int64) []impl.Entry {
	for k := range r.List {
		if i := r.Base + int64(k) + 1; i > r.Base && i == from {
			return r.List[k:]
		}
	}
	return nil
}

func checkRollOk(t *testing.T, r impl.Roll, want bool) {
	t.Helper()
	if wantRoll(r) != want {
		t.Fatalf("the test takes %v otherwise", r)
	}
	if impl.RollOk(r) != want {
		t.Errorf("RollOk(%v) is %v", r, !want)
	}
}

func checkLastIn(t *testing.T, r impl.Roll) {
	t.Helper()
	if got := impl.LastIn(r); got != wantLastIn(r) {
		t.Errorf("LastIn(%v) is %d, not %d", r, got, wantLastIn(r))
	}
}

func checkReignAt(t *testing.T, r impl.Roll, i int64) {
	t.Helper()
	want, got := wantReignAt(r, i), impl.ReignAt(r, i)
	stands := standing(r, i)
	if !wantRoll(r) && (i == r.Base && got == r.Reign || len(stands) > 0 && got == stands[0].Reign) {
		return
	}
	if got != want {
		t.Errorf("ReignAt(%v, %d) is %d, not %d", r, i, got, want)
	}
}

func checkEntryAt(t *testing.T, r impl.Roll, i int64) {
	t.Helper()
	want, wantIs := wantEntryAt(r, i)
	got, is := impl.EntryAt(r, i)
	stands := standing(r, i)
	if !wantRoll(r) && is && len(stands) > 0 && got == stands[0] {
		return
	}
	if got != want || is != wantIs {
		t.Errorf("EntryAt(%v, %d) is %v, %v, not %v, %v", r, i, got, is, want, wantIs)
	}
}

func checkTail(t *testing.T, r impl.Roll, from int64) {
	t.Helper()
	want, got := wantTail(r, from), impl.Tail(r, from)
	if !wantRoll(r) && from <= 0 && slices.Equal(got, standing(r, from)) {
		return
	}
	if !slices.Equal(got, want) {
		t.Errorf("Tail(%v, %d) is %v, not %v", r, from, got, want)
	}
}

func checkJoined(t *testing.T, r impl.Roll, prev, reign int64, entries []impl.Entry) {
	t.Helper()
	want, wantIs := wantJoined(r, prev, reign, entries)
	if got, is := impl.Joined(r, prev, reign, entries); !sameRoll(got, want) || is != wantIs {
		t.Fatalf("Joined(%v, %d, %d, %v) is %v, %v, not %v, %v", r, prev, reign, entries, got, is, want, wantIs)
	}
}

func checkCut(t *testing.T, r impl.Roll, i int64) {
	t.Helper()
	want, wantIs := wantCut(r, i)
	if got, is := impl.Cut(r, i); !sameRoll(got, want) || is != wantIs {
		t.Errorf("Cut(%v, %d) is %v, %v, not %v, %v", r, i, got, is, want, wantIs)
	}
}

// checkJoins asks for true, for the Base and its Reign as they were, and for
// that List.
func checkJoins(t *testing.T, r impl.Roll, prev, reign int64, entries []impl.Entry, want ...impl.Entry) {
	t.Helper()
	got, is := impl.Joined(r, prev, reign, entries)
	if !is || !sameRoll(got, impl.Roll{Base: r.Base, Reign: r.Reign, List: want}) {
		t.Errorf("Joined(%v, %d, %d, %v) is %v, %v, not of %v, true", r, prev, reign, entries, got, is, want)
	}
	checkJoined(t, r, prev, reign, entries)
}

// checkNotJoined asks for false, and for the Roll as it was.
func checkNotJoined(t *testing.T, r impl.Roll, prev, reign int64, entries []impl.Entry) {
	t.Helper()
	if got, is := impl.Joined(r, prev, reign, entries); is || !sameRoll(got, r) {
		t.Errorf("Joined(%v, %d, %d, %v) is %v, %v, not as it was, false", r, prev, reign, entries, got, is)
	}
	checkJoined(t, r, prev, reign, entries)
}

// farNumbers is numbers at the sides of the limits, and such of no entry.
func farNumbers() []int64 {
	return []int64{math.MinInt64, math.MinInt64 + 1, -1 << 32, -301, -300, -101, -2, -1, 0, 1, 99, 100, 101, 299, 300, 301, 399, 400, 401, 402, 1000, 1 << 32, math.MaxInt64 - 1, math.MaxInt64}
}

// numbersNear is each number from two ahead of Base to two past the last, and
// the far ones.
func numbersNear(r impl.Roll) []int64 {
	numbers := farNumbers()
	for k := range int64(len(r.List) + 5) {
		numbers = append(numbers, r.Base-2+k)
	}
	return numbers
}

// someRolls is right ones: at the limits, of one Reign and of many, empty and
// not, with Entries that order something and such that do not.
func someRolls(t *testing.T) []impl.Roll {
	rolls := []impl.Roll{
		{}, {Base: 1, Reign: 1}, {Base: 1, Reign: 1000}, {Base: 300, Reign: 7}, {List: []impl.Entry{idle(1)}}, {List: []impl.Entry{idle(1000), idle(1000)}}, {Base: 300, Reign: 1000, List: []impl.Entry{idle(1000)}},
		rollOf(0, 0, 1, 1, 2, 3), rollOf(2, 1, 1, 2, 2), rollOf(2, 1, 2, 2, 5, 9), rollOf(5, 3, 3), rollOf(299, 4, 4, 6, 6), rollOf(298, 4, 5, 5, 5, 8), rollOf(250, 2, steps(99, 3, 2)...), rollOf(0, 0, steps(100, 1, 1)...), rollOf(300, 900, steps(100, 1, 901)...), rollOf(100, 6, steps(100, 100, 6)...),
	}
	mixed := impl.Roll{Base: 3, Reign: 2}
	for kind := int64(1); kind <= 6; kind++ {
		mixed.List = append(mixed.List, entryOf(kind), entry(t, 2, kind%4, 1000, "put oak 1.0.0 - 3"))
	}
	mixed.List = append(mixed.List, idle(4), entry(t, 4, 0, 1, "give oak 1 99"))
	return append(rolls, mixed)
}

// wrongRolls is Rolls with each thing that may be wrong.
func wrongRolls(t *testing.T) []impl.Roll {
	rolls := []impl.Roll{rollOf(0, 0, 1, 2, 1), rollOf(0, 0, 2, 1), rollOf(0, 0, 1, 1, 3, 2, 2), rollOf(3, 2, 1), rollOf(3, 2, 1, 2), rollOf(3, 2, 2, 2, 1), rollOf(3, 1000, 999), rollOf(300, 2, 2, 3, 3, 2), rollOf(0, 0, 0), rollOf(0, 0, 1, 1001), rollOf(2, 1000, 1000, 1001), rollOf(0, 0, -1, 1)}
	for _, base := range []int64{math.MinInt64, math.MinInt64 + 2, -1 << 32, -300, -3, -2, -1, 301, 302, 400, 1 << 32, math.MaxInt64 - 1, math.MaxInt64} {
		rolls = append(rolls, rollOf(base, 0), rollOf(base, 1), rollOf(base, 0, 1, 1), rollOf(base, 1, 1, 2, 3), rollOf(base, 5, steps(100, 10, 5)...))
	}
	for _, reign := range []int64{math.MinInt64, -1000, -1, 1, 2, 1000, 1001, math.MaxInt64} {
		rolls = append(rolls, rollOf(0, reign), rollOf(0, reign, 1000), rollOf(0, reign, reign, reign))
	}
	for _, reign := range wrongReigns() {
		rolls = append(rolls, rollOf(1, reign), rollOf(300, reign), rollOf(2, reign, 1000), rollOf(2, reign, 1, 1), rollOf(2, reign, reign))
	}
	for _, n := range []int{101, 102, 200, 1000} {
		rolls = append(rolls, rollOf(0, 0, steps(n, 10, 1)...), rollOf(300, 1, steps(n, n, 1)...))
	}
	for i, e := range wrongEntries(t) {
		r := rollOf(0, 0, 1, 2, 2, 3)
		if i%2 == 1 {
			r = rollOf(7, 1, 1, 2, 2, 3)
		}
		r.List[i%4] = e
		rolls = append(rolls, r)
	}
	return rolls
}

func TestRollNumbersAsTold(t *testing.T) {
	if impl.MaxBase != 300 || impl.MaxList != 100 {
		t.Error(impl.MaxBase, impl.MaxList)
	}
}

func TestRollOkAtEachBase(t *testing.T) {
	checkRollOk(t, impl.Roll{}, true)
	checkRollOk(t, rollOf(-1, 0), false)
	checkRollOk(t, rollOf(300, 1), true)
	checkRollOk(t, rollOf(301, 1), false)
	for _, base := range append(farNumbers(), 2, 3, 150) {
		for _, reign := range append(wrongReigns(), 1, 2, 500, 999, 1000) {
			right := base == 0 && reign == 0 || base >= 1 && base <= 300 && reign >= 1 && reign <= 1000
			checkRollOk(t, rollOf(base, reign), right)
			checkRollOk(t, rollOf(base, reign, 1000), right)
			checkRollOk(t, rollOf(base, reign, 1000, 1000, 1001), false)
		}
	}
}

func TestRollOkByLength(t *testing.T) {
	for _, n := range []int{0, 1, 2, 50, 99, 100, 101, 102, 1000} {
		checkRollOk(t, rollOf(0, 0, steps(n, 2, 1)...), n <= 100)
		checkRollOk(t, rollOf(1, 1, steps(n, n+1, 1)...), n <= 100)
		checkRollOk(t, rollOf(300, 1000, steps(n, n+1, 1000)...), n <= 100)
		checkRollOk(t, impl.Roll{Base: 9, Reign: 2, List: slices.Repeat([]impl.Entry{idle(3)}, n)}, n <= 100)
	}
	checkRollOk(t, impl.Roll{List: []impl.Entry{}}, true)
}

// The Reigns stay, rise or fall, from Base to the first one, and from each one
// to the next.
func TestRollOkByReigns(t *testing.T) {
	for a := range int64(5) {
		for b := range int64(5) {
			for c := range int64(5) {
				checkRollOk(t, rollOf(0, 0, a, b, c), a > 0 && a <= b && b <= c)
				checkRollOk(t, rollOf(4, a, b, c), a > 0 && a <= b && b <= c)
			}
		}
	}
	for at := range 100 {
		falls := rollOf(0, 0, steps(100, 100, 7)...)
		falls.List[at].Reign = 6
		checkRollOk(t, falls, at == 0)
		rises := rollOf(9, 7, steps(100, 100, 7)...)
		rises.List[at].Reign = 8
		checkRollOk(t, rises, at == 99)
	}
	checkRollOk(t, rollOf(0, 0, 1, 1000), true)
	checkRollOk(t, rollOf(1, 1, 1000), true)
}

func TestRollOkOfEntries(t *testing.T) {
	for _, e := range wrongEntries(t) {
		for at := range 3 {
			r := rollOf(0, 0, 1, 1, 1)
			r.List[at] = e
			checkRollOk(t, r, false)
		}
		// Its Reign is as it may be, so that the Order alone is wrong.
		if e.Reign = 2; !orderIsZero(e.Order) && !wantOrder(e.Order) {
			checkRollOk(t, impl.Roll{Base: 5, Reign: 2, List: []impl.Entry{idle(2), e, idle(2)}}, false)
		}
	}
	for kind := int64(1); kind <= 6; kind++ {
		checkRollOk(t, impl.Roll{Base: 5, Reign: 2, List: []impl.Entry{idle(2), entryOf(kind), idle(2)}}, true)
	}
	for _, r := range someRolls(t) {
		checkRollOk(t, r, true)
	}
	for _, r := range wrongRolls(t) {
		checkRollOk(t, r, false)
	}
}

func TestLastInAsTold(t *testing.T) {
	for _, c := range []struct {
		r    impl.Roll
		want int64
	}{
		{impl.Roll{}, 0}, {rollOf(7, 1), 7}, {rollOf(300, 1), 300}, {rollOf(0, 0, 1), 1}, {rollOf(7, 1, 1, 2), 9}, {rollOf(0, 0, steps(100, 1, 1)...), 100}, {rollOf(300, 1, steps(100, 1, 1)...), 400},
		{rollOf(-1, 0), -1}, {rollOf(301, 1), -1}, {rollOf(0, 1), -1}, {rollOf(1, 0), -1}, {rollOf(0, 0, 2, 1), -1}, {rollOf(0, 0, steps(101, 1, 1)...), -1}, {rollOf(math.MaxInt64, 1, 1), -1},
	} {
		if got := impl.LastIn(c.r); got != c.want {
			t.Errorf("LastIn(%v) is %d, not %d", c.r, got, c.want)
		}
	}
	for _, r := range append(someRolls(t), wrongRolls(t)...) {
		checkLastIn(t, r)
	}
}

func TestEntriesByNumberAsTold(t *testing.T) {
	r := rollOf(3, 2, 2, 4, 4)
	for i, want := range []int64{-1, -1, -1, 2, 2, 4, 4, -1, -1} {
		if got := impl.ReignAt(r, int64(i)); got != want {
			t.Errorf("ReignAt(%d) is %d, not %d", i, got, want)
		}
		e, is := impl.EntryAt(r, int64(i))
		if inList := i >= 4 && i <= 6; is != inList || inList && e != r.List[i-4] || !inList && e != (impl.Entry{}) {
			t.Errorf("EntryAt(%d) is %v, %v", i, e, is)
		}
		tail := impl.Tail(r, int64(i))
		if i >= 4 && i <= 7 && !slices.Equal(tail, r.List[i-4:]) || (i < 4 || i > 7) && len(tail) != 0 {
			t.Errorf("Tail(%d) is %v", i, tail)
		}
	}
	// Entry 0 of a Roll of which nothing is folded away has Reign 0.
	if got := impl.ReignAt(rollOf(0, 0, 1), 0); got != 0 {
		t.Errorf("the Reign of Base 0 is %d", got)
	}
	if got := impl.ReignAt(rollOf(0, 0), -1); got != -1 {
		t.Errorf("the Reign of -1 is %d", got)
	}
}

func TestEntriesByNumber(t *testing.T) {
	for _, r := range append(someRolls(t), wrongRolls(t)...) {
		for _, i := range numbersNear(r) {
			checkReignAt(t, r, i)
			checkEntryAt(t, r, i)
			checkTail(t, r, i)
		}
	}
}

// Of a Roll that is not right there is no last entry, so Tail has none.
func TestTailOfWhatIsNoRoll(t *testing.T) {
	for _, r := range wrongRolls(t) {
		for from := max(0, r.Base) + 1; from >= 1 && from <= r.Base+int64(len(r.List))+2; from++ {
			if got := impl.Tail(r, from); len(got) != 0 {
				t.Fatalf("Tail(%v, %d) is %v", r, from, got)
			}
		}
	}
}

func TestJoinedBehindTheLast(t *testing.T) {
	r := rollOf(2, 1, 1, 2)
	own, list := r.List, told(2, 3, 3)
	checkJoins(t, r, 4, 2, list, own[0], own[1], list[0], list[1], list[2])
	checkJoins(t, r, 4, 2, list[:1], own[0], own[1], list[0])
	checkJoins(t, r, 4, 2, list[1:], own[0], own[1], list[1], list[2])
	checkJoins(t, rollOf(0, 0), 0, 0, list, list...)
	checkJoins(t, rollOf(2, 1), 2, 1, list, list...)
	checkJoins(t, rollOf(300, 2), 300, 2, list, list...)
}

// Those that are there with their Reigns stay, of their own Orders, and what is
// behind the last one of list, too.
func TestJoinedOfWhatIsThere(t *testing.T) {
	r := rollOf(2, 1, 1, 2, 2, 3)
	for _, list := range [][]impl.Entry{told(1), told(1, 2), told(1, 2, 2), told(1, 2, 2, 3)} {
		checkJoins(t, r, 2, 1, list, r.List...)
	}
	checkJoins(t, r, 3, 1, told(2), r.List...)
	checkJoins(t, r, 3, 1, told(2, 2), r.List...)
	checkJoins(t, r, 5, 2, told(3), r.List...)
	more := told(2, 3, 3, 4)
	checkJoins(t, r, 4, 2, more, append(slices.Clone(r.List), more[2:]...)...)
	// An Entry that is not right is not put behind where its Reign is there.
	wrong := []impl.Entry{{Reign: 2, Order: impl.Order{Client: 4}}}
	checkJoins(t, r, 3, 1, wrong, r.List...)
}

func TestJoinedOfAnotherReign(t *testing.T) {
	r := rollOf(2, 1, 1, 2, 2, 3, 3)
	own := r.List
	list := told(3)
	checkJoins(t, r, 3, 1, list, own[0], list[0])
	checkJoins(t, r, 4, 2, list, own[0], own[1], list[0])
	list = told(4)
	checkJoins(t, r, 2, 1, list, list[0])
	checkJoins(t, r, 6, 3, list, own[0], own[1], own[2], own[3], list[0])
	list = told(2, 3, 3, 3, 9)
	checkJoins(t, r, 3, 1, list, own[0], own[1], list[1], list[2], list[3], list[4])
	list = told(1, 2, 3)
	checkJoins(t, r, 2, 1, list, own[0], own[1], list[2])
	// One of a lesser Reign than the one that is there is another one, too.
	list = told(1, 1)
	checkJoins(t, r, 2, 1, list, own[0], list[1])
	// Behind one of another Reign nothing stays, also of the same Reigns.
	list = told(1, 1, 2, 3, 3)
	checkJoins(t, r, 2, 1, list, own[0], list[1], list[2], list[3], list[4])
}

func TestJoinedAheadOfBase(t *testing.T) {
	r := rollOf(4, 2, 2, 3, 3)
	own := r.List
	for _, reign := range []int64{math.MinInt64, -1, 0, 1, 2, 3, 1001, math.MaxInt64} {
		list := told(1, 1, 2, 2, 2, 5)
		checkJoins(t, r, 0, reign, list, own[0], list[5])
		checkJoins(t, r, 1, reign, list[1:], own[0], list[5])
		checkJoins(t, r, 2, reign, list[2:], own[0], list[5])
		checkJoins(t, r, 3, reign, list[3:], own[0], list[5])
		checkJoins(t, r, 3, reign, list[3:5], own...)
		checkJoins(t, r, 3, reign, list[3:4], own...)
		checkJoins(t, r, 3, reign, nil, own...)
		checkJoins(t, r, 0, reign, nil, own...)
		// Entry 4 of list, the Base's, has another Reign.
		for _, other := range []int64{-1, 0, 1, 3, 1001} {
			checkNotJoined(t, r, 3, reign, told(other, 2))
			checkNotJoined(t, r, 1, reign, told(2, 2, other, 3, 3))
			checkNotJoined(t, r, 0, reign, told(2, 2, 2, other, 5))
		}
		// Of those ahead of it nothing is asked.
		list = told(9, -1, 1001, 2, 4)
		checkJoins(t, r, 0, reign, list, list[4])
		checkNotJoined(t, r, -1, reign, told(2, 2, 2, 2, 2, 5))
	}
}

// Where all of list is folded away it is true, whatever their Reigns.
func TestJoinedOfWhatIsFoldedAway(t *testing.T) {
	for _, r := range []impl.Roll{rollOf(4, 2), rollOf(4, 2, 2, 3, 3)} {
		for _, list := range [][]impl.Entry{nil, {}, told(1), told(9), told(9, 1), told(1, 1, 1, 3), told(2, 2, 2, 2), told(0, -1, 1001, 7), make([]impl.Entry, 4)} {
			for prev := int64(0); prev+int64(len(list)) <= 4 && prev < 4; prev++ {
				for _, reign := range []int64{-1, 0, 1, 2, 7} {
					checkJoins(t, r, prev, reign, list, r.List...)
				}
			}
		}
	}
}

func TestJoinedBehindWhatIsNotThere(t *testing.T) {
	for _, r := range someRolls(t) {
		last := r.Base + int64(len(r.List))
		for _, prev := range append(farNumbers(), last+1, last+2, last+100) {
			if prev >= 0 && prev <= last {
				continue
			}
			for _, reign := range []int64{math.MinInt64, -1, 0, 1, r.Reign, 1000, 1001} {
				checkNotJoined(t, r, prev, reign, nil)
				checkNotJoined(t, r, prev, reign, told(1000))
				checkNotJoined(t, r, prev, reign, told(steps(20, 20, 1000)...))
			}
		}
	}
}

func TestJoinedBehindOneOfAnotherReign(t *testing.T) {
	for _, r := range someRolls(t) {
		for i := r.Base; i <= r.Base+int64(len(r.List)); i++ {
			at := wantReignAt(r, i)
			for _, reign := range []int64{math.MinInt64, -1, 0, at - 1, at + 1, 1001, math.MaxInt64} {
				if reign != at {
					checkNotJoined(t, r, i, reign, nil)
					checkNotJoined(t, r, i, reign, told(1000))
				}
			}
		}
	}
}

func TestJoinedOfAnEmptyList(t *testing.T) {
	for _, r := range someRolls(t) {
		for i := r.Base; i <= r.Base+int64(len(r.List)); i++ {
			checkJoins(t, r, i, wantReignAt(r, i), nil, r.List...)
			checkJoins(t, r, i, wantReignAt(r, i), []impl.Entry{}, r.List...)
		}
	}
}

func TestJoinedByLength(t *testing.T) {
	r := rollOf(10, 1, steps(60, 60, 1)...)
	for _, n := range []int{0, 1, 39, 40, 41, 42, 100, 101, 1000, 100000} {
		list := told(steps(n, n+1, 2)...)
		if n <= 40 {
			checkJoins(t, r, 70, 1, list, append(slices.Clone(r.List), list...)...)
		} else {
			checkNotJoined(t, r, 70, 1, list)
		}
	}
	// What is taken away leaves room for others.
	for _, n := range []int{99, 100, 101, 102} {
		list := told(steps(n, n+1, 2)...)
		if n <= 100 {
			checkJoins(t, r, 10, 1, list, list...)
		} else {
			checkNotJoined(t, r, 10, 1, list)
		}
	}
	full := rollOf(300, 1, steps(100, 100, 1)...)
	checkNotJoined(t, full, 400, 1, told(1))
	list := told(1, 2)
	checkJoins(t, full, 398, 1, list, append(slices.Clone(full.List[:99]), list[1])...)
	checkNotJoined(t, full, 398, 1, told(1, 1, 1))
	// Those that are folded away, or there already, do not count.
	long := told(steps(400, 400, 1)...)
	checkJoins(t, full, 0, 0, long, full.List...)
	checkNotJoined(t, full, 0, 0, append(long, told(1)...))
	checkJoins(t, rollOf(300, 1), 0, 0, long, long[300:]...)
}

func TestJoinedOfReignsThatFall(t *testing.T) {
	r := rollOf(2, 2, 2, 4, 4)
	checkNotJoined(t, r, 5, 4, told(3))
	checkNotJoined(t, r, 5, 4, told(5, 4))
	checkNotJoined(t, r, 4, 4, told(3))
	checkNotJoined(t, r, 4, 4, told(4, 3))
	checkNotJoined(t, r, 3, 2, told(1))
	checkNotJoined(t, r, 3, 2, told(4, 5, 4))
	checkNotJoined(t, r, 2, 2, told(1, 4, 4))
	checkNotJoined(t, r, 2, 2, told(0))
	checkNotJoined(t, r, 1, 2, told(2, 1))
	checkNotJoined(t, rollOf(0, 0), 0, 0, told(0))
	checkNotJoined(t, rollOf(0, 0), 0, 0, told(2, 1))
	checkNotJoined(t, rollOf(9, 3), 9, 3, told(2))
}

func TestJoinedOfWhatIsNoEntry(t *testing.T) {
	r := rollOf(2, 2, 2, 4, 4)
	for _, e := range wrongEntries(t) {
		for _, list := range [][]impl.Entry{{e}, {idle(4), e}, {e, idle(1000)}, {idle(4), e, idle(1000)}} {
			checkNotJoined(t, r, 5, 4, list)
			checkJoined(t, r, 3, 2, list)
			checkJoined(t, r, 1, 2, list)
			checkNotJoined(t, rollOf(0, 0), 0, 0, list)
		}
	}
}

func TestJoinedOfWhatIsNoRoll(t *testing.T) {
	for _, r := range wrongRolls(t) {
		for _, prev := range []int64{-1, 0, 1, r.Base - 1, r.Base, r.Base + 1, r.Base + int64(len(r.List))} {
			for _, list := range [][]impl.Entry{nil, told(1), told(1000), r.List} {
				for _, reign := range []int64{0, 1, r.Reign} {
					if got, is := impl.Joined(r, prev, reign, list); is || !sameRoll(got, impl.Roll{}) {
						t.Fatalf("Joined(%v, %d, %d, %v) is %v, %v", r, prev, reign, list, got, is)
					}
				}
			}
		}
	}
}

// listsOf is each list of these Reigns that is so long at most.
func listsOf(most int, reigns ...int64) [][]int64 {
	lists := [][]int64{nil}
	for ahead := lists; most > 0; most-- {
		var next [][]int64
		for _, list := range ahead {
			for _, reign := range reigns {
				next = append(next, append(slices.Clone(list), reign))
			}
		}
		lists, ahead = append(lists, next...), next
	}
	return lists
}

// smallRolls is each right Roll of few Reigns and few Entries.
func smallRolls() []impl.Roll {
	var rolls []impl.Roll
	for _, base := range []int64{0, 1, 3} {
		for reign := range int64(3) {
			for _, reigns := range listsOf(3, 1, 2, 3) {
				if r := rollOf(base, reign, reigns...); wantRoll(r) {
					rolls = append(rolls, r)
				}
			}
		}
	}
	return rolls
}

// checkPromise8 asks of a Joined that answers true: what was put behind is
// there by its number with its Reign, what is ahead is as it was, and the same
// once more changes nothing.
func checkPromise8(t *testing.T, r impl.Roll, prev, reign int64, entries []impl.Entry) bool {
	t.Helper()
	got, is := impl.Joined(r, prev, reign, entries)
	if !is {
		return false
	}
	if !impl.RollOk(got) || got.Base != r.Base || got.Reign != r.Reign {
		t.Fatalf("Joined(%v, %d, %d, %v) is %v", r, prev, reign, entries, got)
	}
	for k, e := range entries {
		if i := prev + 1 + int64(k); i >= r.Base && impl.ReignAt(got, i) != e.Reign && prev+int64(len(entries)) > r.Base {
			t.Fatalf("Joined(%v, %d, %d, %v) is %v: entry %d is of another Reign", r, prev, reign, entries, got, i)
		}
	}
	for i := r.Base + 1; i <= prev; i++ {
		before, wasThere := impl.EntryAt(r, i)
		if after, isThere := impl.EntryAt(got, i); after != before || !isThere || !wasThere {
			t.Fatalf("Joined(%v, %d, %d, %v) is %v: entry %d is another one", r, prev, reign, entries, got, i)
		}
	}
	if again, is := impl.Joined(got, prev, reign, entries); !is || !sameRoll(again, got) {
		t.Fatalf("Joined(%v, %d, %d, %v) once more is %v, %v", got, prev, reign, entries, again, is)
	}
	return true
}

// Promise 8, of each small Roll, each number ahead and each small list.
func TestJoinedOfAllThatIsSmall(t *testing.T) {
	done := 0
	lists := append(listsOf(3, 1, 2, 3), listsOf(2, 0, 1, 4)...)
	for _, r := range smallRolls() {
		for prev := int64(-1); prev <= r.Base+int64(len(r.List))+1; prev++ {
			for reign := int64(-1); reign <= 3; reign++ {
				for _, reigns := range lists {
					checkJoined(t, r, prev, reign, told(reigns...))
					if checkPromise8(t, r, prev, reign, told(reigns...)) {
						done++
					}
				}
			}
		}
	}
	if done < 1000 {
		t.Errorf("%d are joined only", done)
	}
}

// someReigns is n Reigns at random, from first on, that mostly do not fall.
func someReigns(r *rand.Rand, n int, first int64) []int64 {
	var reigns []int64
	for range n {
		if reigns = append(reigns, first); r.Intn(3) == 0 {
			first += r.Int63n(3)
		}
	}
	if n > 0 && r.Intn(8) == 0 {
		reigns[r.Intn(n)] = r.Int63n(20)
	}
	return reigns
}

// Promise 8, of long Rolls that are joined again and again, and cut.
func TestJoinedAgainAndAgain(t *testing.T) {
	for seed := range int64(8) {
		r := rand.New(rand.NewSource(seed))
		roll, done := impl.Roll{}, 0
		for range 150 {
			last := impl.LastIn(roll)
			prev := max(0, last-r.Int63n(12))
			reign := max(wantReignAt(roll, prev), 0)
			if r.Intn(10) == 0 {
				reign++
			}
			list := told(someReigns(r, r.Intn(14), max(reign, 1))...)
			checkJoined(t, roll, prev, reign, list)
			if checkPromise8(t, roll, prev, reign, list) {
				roll, _ = impl.Joined(roll, prev, reign, list)
				done++
			}
			if r.Intn(4) == 0 {
				i := roll.Base + r.Int63n(6)
				checkCut(t, roll, i)
				roll, _ = impl.Cut(roll, i)
			}
		}
		if done < 50 {
			t.Errorf("seed %d: %d are joined only", seed, done)
		}
	}
}

func TestCutAsTold(t *testing.T) {
	r := rollOf(3, 2, 2, 4, 4, 5)
	for _, c := range []struct {
		i, reign int64
		list     []impl.Entry
	}{{3, 2, r.List}, {4, 2, r.List[1:]}, {5, 4, r.List[2:]}, {6, 4, r.List[3:]}, {7, 5, nil}} {
		if got, is := impl.Cut(r, c.i); !is || !sameRoll(got, impl.Roll{Base: c.i, Reign: c.reign, List: c.list}) {
			t.Errorf("Cut(%d) is %v, %v", c.i, got, is)
		}
	}
	for _, i := range []int64{-1, 0, 1, 2, 8, 9, 300, 301} {
		if got, is := impl.Cut(r, i); is || !sameRoll(got, r) {
			t.Errorf("Cut(%d) is %v, %v", i, got, is)
		}
	}
	if got, is := impl.Cut(rollOf(0, 0, 1), 0); !is || !sameRoll(got, rollOf(0, 0, 1)) {
		t.Errorf("Cut at Base 0 is %v, %v", got, is)
	}
}

func TestCutBeyondMaxBase(t *testing.T) {
	r := rollOf(298, 1, 1, 2, 3, 4)
	if got, is := impl.Cut(r, 300); !is || !sameRoll(got, impl.Roll{Base: 300, Reign: 2, List: r.List[2:]}) {
		t.Errorf("Cut at 300 is %v, %v", got, is)
	}
	for _, i := range []int64{301, 302} {
		if got, is := impl.Cut(r, i); is || !sameRoll(got, r) {
			t.Errorf("Cut at %d is %v, %v", i, got, is)
		}
	}
	full := rollOf(300, 5, steps(100, 10, 5)...)
	if got, is := impl.Cut(full, 300); !is || !sameRoll(got, full) {
		t.Errorf("Cut at 300 is %v, %v", got, is)
	}
}

func TestCutAtEachNumber(t *testing.T) {
	for _, r := range append(someRolls(t), smallRolls()...) {
		for _, i := range numbersNear(r) {
			checkCut(t, r, i)
			got, is := impl.Cut(r, i)
			if !impl.RollOk(got) || impl.LastIn(got) != impl.LastIn(r) {
				t.Fatalf("Cut(%v, %d) is %v, %v", r, i, got, is)
			}
			// What is not folded away is there by its number.
			for k := got.Base; k <= impl.LastIn(got); k++ {
				if impl.ReignAt(got, k) != impl.ReignAt(r, k) {
					t.Fatalf("Cut(%v, %d): entry %d is of another Reign", r, i, k)
				}
			}
		}
	}
}

func TestCutOfWhatIsNoRoll(t *testing.T) {
	for _, r := range wrongRolls(t) {
		for _, i := range []int64{-1, 0, 1, r.Base, r.Base + 1, r.Base + int64(len(r.List)), 300, 301, math.MinInt64, math.MaxInt64} {
			if got, is := impl.Cut(r, i); is || !sameRoll(got, impl.Roll{}) {
				t.Errorf("Cut(%v, %d) is %v, %v", r, i, got, is)
			}
		}
	}
}

func TestNewerAsTold(t *testing.T) {
	for _, c := range []struct {
		lastA, reignA, lastB, reignB int64
		want                         bool
	}{
		{5, 3, 5, 2, true}, {4, 3, 5, 2, true}, {6, 3, 5, 2, true},
		{5, 2, 5, 3, false}, {4, 2, 5, 3, false}, {6, 2, 5, 3, false},
		{5, 2, 5, 2, true}, {6, 2, 5, 2, true}, {4, 2, 5, 2, false},
		{0, 0, 0, 0, true}, {0, 0, 1, 1, false}, {1, 1, 0, 0, true}, {0, 0, 0, -1, true}, {-1, 0, 0, 0, false},
	} {
		if got := impl.Newer(c.lastA, c.reignA, c.lastB, c.reignB); got != c.want {
			t.Errorf("Newer(%d, %d, %d, %d) is %v", c.lastA, c.reignA, c.lastB, c.reignB, got)
		}
	}
	numbers := []int64{math.MinInt64, -1000, -1, 0, 1, 2, 300, 400, 1000, 1 << 32, math.MaxInt64}
	for _, lastA := range numbers {
		for _, reignA := range numbers {
			for _, lastB := range numbers {
				for _, reignB := range numbers {
					if got := impl.Newer(lastA, reignA, lastB, reignB); got != wantNewer(lastA, reignA, lastB, reignB) {
						t.Errorf("Newer(%d, %d, %d, %d) is %v", lastA, reignA, lastB, reignB, got)
					}
				}
			}
		}
	}
}

// Promise 21, of this chapter: each one answers at every argument, as the
// document tells.
func TestRollsAnswerAtEveryArgument(t *testing.T) {
	lists := [][]impl.Entry{nil, told(1), told(2, 2, 3), told(5, 4), told(steps(101, 101, 1000)...), wrongEntries(t), manyEntries(t, 40)}
	for k, r := range append(someRolls(t), wrongRolls(t)...) {
		checkRollOk(t, r, wantRoll(r))
		checkLastIn(t, r)
		if !wantRoll(r) && k%4 > 0 {
			continue
		}
		numbers := append(farNumbers(), r.Base-1, r.Base, r.Base+1, r.Base+int64(len(r.List)))
		for i, number := range numbers {
			checkReignAt(t, r, number)
			checkEntryAt(t, r, number)
			checkTail(t, r, number)
			checkCut(t, r, number)
			checkJoined(t, r, number, numbers[(i*5+k)%len(numbers)], lists[(i+k)%len(lists)])
			checkJoined(t, r, number, wantReignAt(r, number), lists[(i+k)%len(lists)])
		}
	}
	for _, text := range someTexts() {
		r, list := rollOf(1, 1, 1, 2), told(2, 2)
		list[0].Order.Deed.Name = text
		checkJoined(t, r, 1, 1, list)
		checkJoined(t, r, 3, 2, list)
		r.List[1].Order.Deed.Name = text
		checkRollOk(t, r, wantName(text))
		checkEntryAt(t, r, 3)
		checkTail(t, r, 2)
		checkJoined(t, r, 3, 2, told(2, 3))
		checkCut(t, r, 2)
	}
}

// A rollAnswer is what the functions that answer more than a number or a flag
// say of one Roll, a list, and a number.
type rollAnswer struct {
	at     impl.Entry
	tail   []impl.Entry
	joined impl.Roll
	behind impl.Roll
	cut    impl.Roll
}

// A rollCase is what is asked of a Roll: entry i, the list behind it, and the
// list behind the last one.
type rollCase struct {
	r    impl.Roll
	i    int64
	list []impl.Entry
}

func rollAnswerOf(c rollCase) rollAnswer {
	var a rollAnswer
	a.at, _ = impl.EntryAt(c.r, c.i)
	a.tail = impl.Tail(c.r, c.i)
	a.joined, _ = impl.Joined(c.r, c.i, impl.ReignAt(c.r, c.i), c.list)
	a.behind, _ = impl.Joined(c.r, impl.LastIn(c.r), impl.ReignAt(c.r, impl.LastIn(c.r)), c.list)
	a.cut, _ = impl.Cut(c.r, c.i)
	return a
}

func wantRollAnswer(c rollCase) rollAnswer {
	var a rollAnswer
	a.at, _ = wantEntryAt(c.r, c.i)
	a.tail = wantTail(c.r, c.i)
	a.joined, _ = wantJoined(c.r, c.i, wantReignAt(c.r, c.i), c.list)
	a.behind, _ = wantJoined(c.r, wantLastIn(c.r), wantReignAt(c.r, wantLastIn(c.r)), c.list)
	a.cut, _ = wantCut(c.r, c.i)
	return a
}

func keepRollAnswer(a rollAnswer) rollAnswer {
	return rollAnswer{at: keepEntries([]impl.Entry{a.at})[0], tail: keepEntries(a.tail), joined: keepRoll(a.joined), behind: keepRoll(a.behind), cut: keepRoll(a.cut)}
}

func sameRollAnswer(a, b rollAnswer) bool {
	return a.at == b.at && slices.Equal(a.tail, b.tail) && sameRoll(a.joined, b.joined) && sameRoll(a.behind, b.behind) && sameRoll(a.cut, b.cut)
}

// listsIn is each list of an answer.
func (a rollAnswer) listsIn() [][]impl.Entry {
	return [][]impl.Entry{a.tail, a.joined.List, a.behind.List, a.cut.List}
}

// memoryCases is lists that are joined, refused, folded away, there already,
// and such that take others away; and Rolls that are not right.
func memoryCases(t *testing.T) []rollCase {
	var cases []rollCase
	rolls := []impl.Roll{{}, rollOf(0, 0, 1, 1, 2), rollOf(2, 1, 1, 2, 2, 3), rollOf(9, 3), rollOf(297, 2, steps(100, 30, 2)...), rollOf(0, 0, 2, 1), rollOf(301, 1, 1)}
	for _, r := range rolls {
		lists := [][]impl.Entry{nil, told(1), told(2, 2, 3), told(3, 3), told(9), told(2, 1), {entryOf(2), entryOf(6)}, {idle(3), entry(t, 3, 3, 9, "put ivy 1.2.3 leaf 3")}, {{Reign: 3, Order: impl.Order{Client: 4}}}}
		for _, list := range lists {
			for i := r.Base - 1; i <= r.Base+min(int64(len(r.List)), 5)+1; i++ {
				cases = append(cases, rollCase{r, i, list})
			}
		}
	}
	return cases
}

// Promise 21, of this chapter: arguments stay, their spare room too, and an
// answer is the same when they are changed behind it.
func TestRollsKeepTheirArguments(t *testing.T) {
	for _, c := range memoryCases(t) {
		want := keepRollAnswer(wantRollAnswer(c))
		own, given := viewedEntries(c.r.List), viewedEntries(c.list)
		ownBefore, givenBefore := own.shown(), given.shown()
		viewed := rollCase{impl.Roll{Base: c.r.Base, Reign: c.r.Reign, List: own.entries}, c.i, given.entries}
		got := rollAnswerOf(viewed)
		impl.RollOk(viewed.r)
		if own.shown() != ownBefore || given.shown() != givenBefore {
			t.Fatalf("%v: %s or %s is written into: %s, %s", c, ownBefore, givenBefore, own.shown(), given.shown())
		}
		// Of a Roll that is not right an entry may be answered or not.
		if !wantRoll(c.r) {
			got.at, got.tail = want.at, want.tail
		}
		own.spoil()
		given.spoil()
		if !sameRollAnswer(got, want) {
			t.Fatalf("%v: the answer shares the memory of an argument: %v, not %v", c, got, want)
		}
	}
}

// A list that is a part of a longer one, also of the Roll's own, leaves that
// one as it was.
func TestJoinedOfAPartOfALongerList(t *testing.T) {
	long := impl.Roll{Base: 1, Reign: 1, List: placedAll(1, steps(20, 2, 1))}
	before := keepEntries(long.List)
	for from := range 20 {
		for to := from; to <= 20; to++ {
			r := impl.Roll{Base: 1, Reign: 1, List: long.List[:10]}
			part := long.List[from:to]
			for _, prev := range []int64{0, 1, 5, 10, 11} {
				reign := wantReignAt(r, prev)
				want, wantIs := wantJoined(r, prev, reign, keepEntries(part))
				got, is := impl.Joined(r, prev, reign, part)
				if !sameRoll(got, want) || is != wantIs {
					t.Fatalf("Joined(%v, %d, %d, %v) is %v, %v, not %v, %v", r, prev, reign, part, got, is, want, wantIs)
				}
				clear(got.List[:cap(got.List)])
				if !slices.Equal(long.List, before) {
					t.Fatalf("Joined(%d) of %d to %d: the longer list is %v", prev, from, to, long.List)
				}
			}
		}
	}
}

// Promise 21, of this chapter: what is changed in an answer, or behind it in
// its spare room, is changed neither in an argument nor in another answer.
func TestRollsAnswerAnewEachTime(t *testing.T) {
	for _, c := range memoryCases(t) {
		own, given := viewedEntries(c.r.List), viewedEntries(c.list)
		ownBefore, givenBefore := own.shown(), given.shown()
		viewed := rollCase{impl.Roll{Base: c.r.Base, Reign: c.r.Reign, List: own.entries}, c.i, given.entries}
		first := rollAnswerOf(viewed)
		want := keepRollAnswer(first)
		second := rollAnswerOf(viewed)
		for k, list := range first.listsIn() {
			clear(list[:cap(list)])
			for other := k + 1; other < len(first.listsIn()); other++ {
				if !slices.Equal(first.listsIn()[other], want.listsIn()[other]) {
					t.Fatalf("%v: a change of list %d changes list %d: %v", c, k, other, first)
				}
			}
		}
		if own.shown() != ownBefore || given.shown() != givenBefore {
			t.Fatalf("%v: a change of an answer changes an argument: %s, %s", c, own.shown(), given.shown())
		}
		if third := rollAnswerOf(viewed); !sameRollAnswer(second, want) || !sameRollAnswer(third, want) {
			t.Fatalf("%v: a change of one answer changes another: %v, %v", c, second, third)
		}
	}
}

// A text is in memory of its own in each answer.
func TestRollsTextsShareNoMemory(t *testing.T) {
	r := impl.Roll{Base: 2, Reign: 2, List: []impl.Entry{entryOf(2), entryOf(2)}}
	c := rollCase{r, 3, []impl.Entry{entryOf(2), entryOf(2)}}
	// The texts of all that is given are in one memory.
	entries := []impl.Entry{entryOf(2)}
	for range 2 {
		answer := rollAnswerOf(c)
		entries = append(entries, answer.at)
		for _, list := range answer.listsIn() {
			entries = append(entries, list...)
		}
	}
	var texts []string
	for i := range entries {
		for _, s := range textsIn(&entries[i]) {
			texts = append(texts, *s)
		}
	}
	for i, s := range texts {
		for k, other := range texts[:i] {
			if unsafe.StringData(s) == unsafe.StringData(other) {
				t.Errorf("text %d, %q, is in the memory of text %d", i, s, k)
			}
		}
	}
}

func TestRollsAnswerMayBeTheNextArgument(t *testing.T) {
	one, _ := impl.Joined(rollOf(2, 1, 1, 2), 4, 2, told(2, 3))
	kept := keepRoll(one)
	for i := int64(0); i <= 8; i++ {
		for _, list := range [][]impl.Entry{nil, told(3), told(4, 4), one.List, one.List[1:2], impl.Tail(one, 4)} {
			checkJoined(t, one, i, wantReignAt(one, i), list)
			checkCut(t, one, i)
			checkTail(t, one, i)
			if !sameRoll(one, kept) {
				t.Fatalf("it is changed: %v", one)
			}
		}
	}
}
