package tests

import (
	"math"
	"math/rand"
	"slices"
	"strconv"
	"strings"
	"testing"

	"loop.example/g00572/impl"
)

// bareLetter tells nothing but what every kind does.
func bareLetter(kind int64) impl.Letter { return impl.Letter{Kind: kind, From: 2, To: 1, Reign: 4} }

// letterOf is right, of 3 scribes and of 5; nothing that its kind tells is
// zero, and nothing that is told is at its limit.
func letterOf(t *testing.T, kind int64) impl.Letter {
	t.Helper()
	l := bareLetter(kind)
	switch kind {
	case 1:
		l.Index, l.Mark = 6, 3
	case 2:
		l.Yes = true
	case 3:
		l.Index, l.Mark, l.Commit = 5, 1, 7
		l.List = []impl.Entry{entry(t, 2, 1, 9, "claim fir 3"), idle(2), entry(t, 3, 0, 1, "put oak 9.0.0 leaf 2")}
	case 4:
		l.Yes, l.Index = true, 8
	case 5:
		l.Index, l.Mark, l.Book = 9, 3, aBook()
	}
	return l
}

// letterKinds is the five of them.
func letterKinds() []int64 { return []int64{1, 2, 3, 4, 5} }

// eachLetter is one of each kind, and one of each kind that is bare.
func eachLetter(t *testing.T) []impl.Letter {
	t.Helper()
	var letters []impl.Letter
	for _, kind := range letterKinds() {
		letters = append(letters, letterOf(t, kind), bareLetter(kind))
	}
	return letters
}

// letterNumbers is all numbers of a Letter, but for those in its lists.
func letterNumbers(l *impl.Letter) []*int64 {
	return []*int64{&l.Kind, &l.From, &l.To, &l.Reign, &l.Index, &l.Mark, &l.Commit}
}

func withList(l impl.Letter, entries ...impl.Entry) impl.Letter {
	l.List = entries
	return l
}

func withBook(l impl.Letter, b impl.Book) impl.Letter {
	l.Book = b
	return l
}

// longLetters have all there is room for.
func longLetters(t *testing.T, n int64) []impl.Letter {
	t.Helper()
	ask := impl.Letter{Kind: 1, From: n - 1, To: 0, Reign: 1000, Index: 400, Mark: 1000}
	got := impl.Letter{Kind: 4, From: 0, To: n - 1, Reign: 1000, Index: 400}
	add := impl.Letter{Kind: 3, From: n - 1, To: n - 2, Reign: 1000, Index: 400, Mark: 1000, Commit: 400}
	for _, o := range manyOrders(t, 5) {
		add.List = append(add.List, impl.Entry{Reign: 1000, Order: o})
	}
	gift := impl.Letter{Kind: 5, From: 1, To: 0, Reign: 1000, Index: 400, Mark: 1000, Book: impl.Book{Shelf: shelfOfLength(5), Lasts: lastsOf(0, 1, 2, 3)}}
	return []impl.Letter{ask, got, add, gift}
}

// someLetters is right ones, of n.
func someLetters(t *testing.T, n int64) []impl.Letter {
	t.Helper()
	letters := append(eachLetter(t), longLetters(t, n)...)
	for _, reigns := range [][]int64{{1}, {4}, {1, 4}, {1, 1, 1, 1, 1}, {4, 4, 4, 4, 4}, {1, 2, 2, 3, 4}} {
		letters = append(letters, withList(letterOf(t, 3), told(reigns...)...))
	}
	for _, b := range someBooks() {
		letters = append(letters, withBook(letterOf(t, 5), b))
	}
	empty := bareLetter(1)
	empty.List, empty.Book = []impl.Entry{}, impl.Book{Shelf: []impl.Work{}, Lasts: []impl.Last{}}
	return append(letters, empty)
}

// changedLetters is each of these Letters with each of these changes alone.
func changedLetters(letters func() []impl.Letter, changes ...func(*impl.Letter)) []impl.Letter {
	var changed []impl.Letter
	for _, change := range changes {
		for _, l := range letters() {
			change(&l)
			changed = append(changed, l)
		}
	}
	return changed
}

// wrongLetters is such with each thing that may be wrong, of n.
func wrongLetters(t *testing.T, n int64) []impl.Letter {
	t.Helper()
	wrong := changedLetters(func() []impl.Letter { return eachLetter(t) },
		func(l *impl.Letter) { l.Kind = -1 }, func(l *impl.Letter) { l.Kind = 0 }, func(l *impl.Letter) { l.Kind = 6 }, func(l *impl.Letter) { l.Kind += 256 },
		func(l *impl.Letter) { l.From = -1 }, func(l *impl.Letter) { l.From = n }, func(l *impl.Letter) { l.From = l.To }, func(l *impl.Letter) { l.To = -1 }, func(l *impl.Letter) { l.To = n }, func(l *impl.Letter) { l.To = l.From },
		func(l *impl.Letter) { l.Reign = 0 }, func(l *impl.Letter) { l.Reign = -4 }, func(l *impl.Letter) { l.Reign = 1001 },
		func(l *impl.Letter) { l.Index = -1 }, func(l *impl.Letter) { l.Index = 401 }, func(l *impl.Letter) { l.Mark = -1 }, func(l *impl.Letter) { l.Mark = 5 }, func(l *impl.Letter) { l.Commit = -1 }, func(l *impl.Letter) { l.Commit = 401 },
		func(l *impl.Letter) { l.List = told(5) }, func(l *impl.Letter) { l.List = told(0) }, func(l *impl.Letter) { l.List = told(3, 2) }, func(l *impl.Letter) { l.List = told(4, 4, 4, 4, 4, 4) }, func(l *impl.Letter) { l.List = []impl.Entry{{}} },
		func(l *impl.Letter) { l.Book.Lasts = lastsOf(3, 1) }, func(l *impl.Letter) { l.Book.Shelf = shelfOfLength(6) }, func(l *impl.Letter) { l.Book.Shelf = []impl.Work{named("Elm", 0)} },
	)
	for _, kind := range letterKinds() {
		wrong = append(wrong, changedLetters(func() []impl.Letter { return []impl.Letter{bareLetter(kind), letterOf(t, kind)} }, untold(kind)...)...)
	}
	return append(wrong, impl.Letter{}, impl.Letter{Kind: 2}, impl.Letter{From: 1, Reign: 1}, withList(letterOf(t, 3), idle(1), idle(2), idle(0), idle(4)))
}

// A letterPart is what some kinds tell and others do not, with a sign for it:
// i of Index, m of Mark, l of List, c of Commit, y of Yes, w and b of the Book's
// works and Lasts.
type letterPart struct {
	sign string
	some func(*impl.Letter)
	none func(*impl.Letter)
	is   func(impl.Letter) bool
}

// letterParts makes the least that is right of each where it is told.
func letterParts() []letterPart {
	return []letterPart{
		{"i", func(l *impl.Letter) { l.Index = 1 }, func(l *impl.Letter) { l.Index = 0 }, func(l impl.Letter) bool { return l.Index != 0 }},
		{"m", func(l *impl.Letter) { l.Mark = 1 }, func(l *impl.Letter) { l.Mark = 0 }, func(l impl.Letter) bool { return l.Mark != 0 }},
		{"l", func(l *impl.Letter) { l.List = []impl.Entry{idle(4)} }, func(l *impl.Letter) { l.List = nil }, func(l impl.Letter) bool { return len(l.List) > 0 }},
		{"c", func(l *impl.Letter) { l.Commit = 1 }, func(l *impl.Letter) { l.Commit = 0 }, func(l impl.Letter) bool { return l.Commit != 0 }},
		{"y", func(l *impl.Letter) { l.Yes = true }, func(l *impl.Letter) { l.Yes = false }, func(l impl.Letter) bool { return l.Yes }},
		{"w", func(l *impl.Letter) { l.Book.Shelf = []impl.Work{named("a", 0)} }, func(l *impl.Letter) { l.Book.Shelf = nil }, func(l impl.Letter) bool { return len(l.Book.Shelf) > 0 }},
		{"b", func(l *impl.Letter) { l.Book.Lasts = []impl.Last{lastWith(0, 1, 0, "")} }, func(l *impl.Letter) { l.Book.Lasts = nil }, func(l impl.Letter) bool { return len(l.Book.Lasts) > 0 }},
	}
}

// toldBy is the signs of what the kind tells.
func toldBy(kind int64) string {
	return map[int64]string{1: "im", 2: "y", 3: "imlc", 4: "yi", 5: "imwb"}[kind]
}

// untold makes something of each thing that the kind does not tell.
func untold(kind int64) []func(*impl.Letter) {
	var changes []func(*impl.Letter)
	for _, part := range letterParts() {
		if !strings.Contains(toldBy(kind), part.sign) {
			changes = append(changes, part.some)
		}
	}
	return changes
}

func keepLetter(l impl.Letter) impl.Letter {
	l.List, l.Book = keepEntries(l.List), keepBook(l.Book)
	return l
}

// sameLetter is the document's words once more, by another way than the
// program's: two Letters are the same when all that is in them, written out,
// is.
func sameLetter(a, b impl.Letter) bool { return letterText(a) == letterText(b) }

// letterText tells ahead of each list how long it is, so that what is at
// another place is another text.
func letterText(l impl.Letter) string {
	text := numbersText(l.Kind, l.From, l.To, l.Reign, l.Index, l.Mark, l.Commit, int64(len(l.List))) + strconv.FormatBool(l.Yes)
	for _, e := range l.List {
		text += ";" + entryText(e)
	}
	return text + ";" + bookText(l.Book)
}

func bookText(b impl.Book) string {
	text := numbersText(int64(len(b.Shelf)), int64(len(b.Lasts)))
	for _, w := range b.Shelf {
		text += strconv.Quote(w.Name) + numbersText(w.Owner, int64(len(w.Copies)))
		for _, c := range w.Copies {
			text += numbersText(c.Edition.Major, c.Edition.Minor, c.Edition.Patch) + strconv.Quote(c.Page) + strconv.FormatBool(c.Hidden)
		}
	}
	for _, l := range b.Lasts {
		text += numbersText(l.Client, l.Seq, l.Reply.Code) + strconv.Quote(l.Reply.Page)
	}
	return text
}

func numbersText(numbers ...int64) string {
	text := ""
	for _, number := range numbers {
		text += strconv.FormatInt(number, 10) + ","
	}
	return text
}

// The document's words once more, by another way than the program's: From and
// To are looked up, what there is is looked for among what the kind tells, and
// Mark, the Reigns and the Letter's own stand in one row that does not fall.
func wantLetter(l impl.Letter, n int64) bool {
	scribes := map[int64][]int64{3: {0, 1, 2}, 5: {0, 1, 2, 3, 4}}[n]
	if !slices.Contains(scribes, l.From) || !slices.Contains(scribes, l.To) || l.From == l.To {
		return false
	}
	for _, part := range letterParts() {
		if part.is(l) && !strings.Contains(toldBy(l.Kind), part.sign) {
			return false
		}
	}
	return toldBy(l.Kind) != "" && wantLetterNumbers(l) && wantBatch(l) && wantBook(l.Book)
}

func wantLetterNumbers(l impl.Letter) bool {
	if l.Reign < 1 || l.Reign > 1000 || l.Mark < 0 || l.Mark > l.Reign {
		return false
	}
	return min(l.Index, l.Commit) >= 0 && max(l.Index, l.Commit) <= 400
}

func wantBatch(l impl.Letter) bool {
	reigns := []int64{l.Mark}
	for _, e := range l.List {
		if !wantEntry(e) {
			return false
		}
		reigns = append(reigns, e.Reign)
	}
	return len(l.List) < 6 && slices.IsSorted(append(reigns, l.Reign))
}

func checkLetterOk(t *testing.T, l impl.Letter, n int64, want bool) {
	t.Helper()
	if wantLetter(l, n) != want {
		t.Fatalf("the test takes %v of %d otherwise", l, n)
	}
	if impl.LetterOk(l, n) != want {
		t.Errorf("LetterOk(%v, %d) is %v", l, n, !want)
	}
}

// checkLetterOkOfBoth is of those that 3 scribes and 5 take alike.
func checkLetterOkOfBoth(t *testing.T, l impl.Letter, want bool) {
	t.Helper()
	checkLetterOk(t, l, 3, want)
	checkLetterOk(t, l, 5, want)
}

func checkKindOf(t *testing.T, l impl.Letter) {
	t.Helper()
	want := map[int64]string{1: "ask", 2: "vote", 3: "add", 4: "got", 5: "gift"}[l.Kind]
	if got := impl.KindOf(l); got != want {
		t.Errorf("KindOf(%v) is %q, not %q", l, got, want)
	}
}

// checkSameLetter asks both ways.
func checkSameLetter(t *testing.T, a, b impl.Letter, want bool) {
	t.Helper()
	if sameLetter(a, b) != want {
		t.Fatalf("the test takes %v and %v otherwise", a, b)
	}
	if impl.SameLetter(a, b) != want || impl.SameLetter(b, a) != want {
		t.Errorf("SameLetter(%v, %v) is %v, or the other way round", a, b, !want)
	}
}

func TestLetterNumbersAsTold(t *testing.T) {
	if impl.LtAsk != 1 || impl.LtVote != 2 || impl.LtAdd != 3 || impl.LtGot != 4 || impl.LtGift != 5 || impl.MaxBatch != 5 {
		t.Error(impl.LtAsk, impl.LtVote, impl.LtAdd, impl.LtGot, impl.LtGift, impl.MaxBatch)
	}
}

// Promise 11: of each kind one that is right, and one that is right no more by
// one thing alone.
func TestLetterOkAsTold(t *testing.T) {
	for _, l := range eachLetter(t) {
		checkLetterOkOfBoth(t, l, true)
	}
	for _, n := range counts() {
		for _, l := range someLetters(t, n) {
			checkLetterOk(t, l, n, true)
		}
		for _, l := range wrongLetters(t, n) {
			checkLetterOk(t, l, n, false)
		}
	}
}

func TestLetterOkOfKinds(t *testing.T) {
	for _, kind := range append(farOff(), -1, 0, 6, 7) {
		for _, l := range eachLetter(t) {
			l.Kind = kind
			checkLetterOkOfBoth(t, l, false)
		}
		checkLetterOkOfBoth(t, bareLetter(kind), false)
	}
	// What is told of one kind, as one of another kind: an LtAdd may have no
	// List, an LtGift the zero Book, and neither kind that has Yes must have it.
	for _, kind := range letterKinds() {
		for _, other := range letterKinds() {
			l := letterOf(t, kind)
			l.Kind = other
			checkLetterOkOfBoth(t, l, kind == other || kind == 1 && (other == 3 || other == 5) || kind == 2 && other == 4)
			bare := bareLetter(kind)
			bare.Kind = other
			checkLetterOkOfBoth(t, bare, true)
		}
	}
}

func TestLetterOkOfScribes(t *testing.T) {
	for _, n := range counts() {
		for from := int64(-2); from <= 7; from++ {
			for to := int64(-2); to <= 7; to++ {
				for _, l := range eachLetter(t) {
					l.From, l.To = from, to
					checkLetterOk(t, l, n, from >= 0 && to >= 0 && from < n && to < n && from != to)
				}
			}
		}
		for _, far := range farOff() {
			for _, l := range eachLetter(t) {
				one, two, both := l, l, l
				one.From, two.To, both.From, both.To = far, far, far, far
				checkLetterOk(t, one, n, false)
				checkLetterOk(t, two, n, false)
				checkLetterOk(t, both, n, false)
			}
		}
	}
}

func TestLetterOkByCount(t *testing.T) {
	for _, n := range append(farOff(), -1, 0, 1, 2, 3, 4, 5, 6, 7) {
		for _, l := range eachLetter(t) {
			checkLetterOk(t, l, n, n == 3 || n == 5)
			l.From, l.To = 0, 1
			checkLetterOk(t, l, n, n == 3 || n == 5)
			l.From = 3
			checkLetterOk(t, l, n, n == 5)
			l.From, l.To = 0, 4
			checkLetterOk(t, l, n, n == 5)
		}
	}
}

func TestLetterOkAtEachReign(t *testing.T) {
	for _, reign := range append(wrongReigns(), 0, 1, 2, 3, 4, 500, 999, 1000) {
		for _, kind := range letterKinds() {
			bare, full := bareLetter(kind), letterOf(t, kind)
			bare.Reign, full.Reign = reign, reign
			least := int64(1)
			if kind != 2 && kind != 4 {
				least = 3
			}
			checkLetterOkOfBoth(t, bare, reign >= 1 && reign <= 1000)
			checkLetterOkOfBoth(t, full, reign >= least && reign <= 1000)
		}
	}
}

func TestLetterOkAtEachIndex(t *testing.T) {
	for _, index := range append(farNumbers(), -2, -1, 0, 1, 2, 299, 300, 301, 395, 396, 399, 400, 401, 402, 500) {
		for _, l := range eachLetter(t) {
			l.Index = index
			checkLetterOkOfBoth(t, l, index == 0 || l.Kind != impl.LtVote && index > 0 && index <= 400)
		}
	}
	// Index does not hang on what else is told.
	for _, index := range []int64{0, 1, 300, 400} {
		for _, mark := range []int64{0, 1, 4} {
			for _, kind := range []int64{1, 3, 5} {
				l := letterOf(t, kind)
				l.Index, l.Mark, l.List = index, mark, nil
				checkLetterOkOfBoth(t, l, true)
			}
		}
	}
}

func TestLetterOkAtEachCommit(t *testing.T) {
	for _, commit := range append(farNumbers(), -2, -1, 0, 1, 2, 299, 300, 301, 399, 400, 401, 402, 500) {
		for _, l := range eachLetter(t) {
			l.Commit = commit
			checkLetterOkOfBoth(t, l, commit == 0 || l.Kind == impl.LtAdd && commit > 0 && commit <= 400)
			if l.Kind != impl.LtVote {
				l.Index = 400
				checkLetterOkOfBoth(t, l, commit == 0 || l.Kind == impl.LtAdd && commit > 0 && commit <= 400)
			}
		}
	}
}

func TestLetterOkAtEachMark(t *testing.T) {
	for _, reign := range []int64{1, 2, 3, 500, 999, 1000} {
		for _, mark := range append(farNumbers(), -2, -1, 0, 1, 2, reign-1, reign, reign+1, 998, 999, 1000, 1001, 1002) {
			for _, kind := range letterKinds() {
				l := letterOf(t, kind)
				l.Reign, l.Mark, l.List = reign, mark, nil
				checkLetterOkOfBoth(t, l, mark == 0 || kind%2 == 1 && mark > 0 && mark <= reign)
				if kind == impl.LtAdd {
					l.List = []impl.Entry{idle(reign)}
					checkLetterOkOfBoth(t, l, mark >= 0 && mark <= reign)
				}
			}
		}
	}
}

func TestLetterOkByLengthOfList(t *testing.T) {
	for n := range 12 {
		for _, l := range eachLetter(t) {
			l.List = told(slices.Repeat([]int64{4}, n)...)
			checkLetterOkOfBoth(t, l, n == 0 || l.Kind == impl.LtAdd && n <= 5)
			l.List = slices.Repeat([]impl.Entry{idle(4)}, n)
			checkLetterOkOfBoth(t, l, n == 0 || l.Kind == impl.LtAdd && n <= 5)
		}
	}
	for _, n := range []int{100, 256, 400, 65536} {
		checkLetterOkOfBoth(t, withList(letterOf(t, 3), slices.Repeat([]impl.Entry{idle(4)}, n)...), false)
	}
}

// At each place of a list of each length.
func TestLetterOkOfWrongEntries(t *testing.T) {
	for n := 1; n <= 5; n++ {
		for at := range n {
			for _, e := range wrongEntries(t) {
				l := bareLetter(3)
				l.Reign, l.List = 1000, told(slices.Repeat([]int64{max(1, min(1000, e.Reign))}, n)...)
				checkLetterOkOfBoth(t, l, true)
				l.List[at] = e
				checkLetterOkOfBoth(t, l, false)
			}
		}
	}
}

// Reigns are from Mark on, do not fall, and none is later than the Letter's:
// every row of at most four, and of five.
func TestLetterOkOfReigns(t *testing.T) {
	right := 0
	for _, reigns := range append(listsOf(4, 1, 2, 3, 4), listsOfLength(5, 1, 2, 3)...) {
		for mark := range int64(5) {
			for reign := int64(1); reign <= 5; reign++ {
				l := bareLetter(3)
				l.Mark, l.Reign, l.List = mark, reign, told(reigns...)
				want := mark <= reign && slices.IsSorted(reigns)
				if len(reigns) > 0 {
					want = want && mark <= reigns[0] && reigns[len(reigns)-1] <= reign
				}
				if checkLetterOk(t, l, 3, want); want {
					right++
				}
			}
		}
	}
	if right < 500 {
		t.Errorf("%d are right", right)
	}
}

func TestLetterOkOfReignsAtTheLimits(t *testing.T) {
	for _, c := range []struct {
		mark, reign int64
		reigns      []int64
		want        bool
	}{
		{1000, 1000, []int64{1000, 1000, 1000, 1000, 1000}, true}, {0, 1, []int64{1}, true}, {1, 1, []int64{1, 1}, true},
		{0, 1000, []int64{1, 250, 500, 750, 1000}, true}, {0, 999, []int64{1, 250, 500, 750, 1000}, false}, {2, 1000, []int64{1, 250, 500, 750, 1000}, false},
		{7, 9, []int64{7, 8, 9}, true}, {8, 9, []int64{7, 8, 9}, false}, {7, 8, []int64{7, 8, 9}, false}, {7, 9, []int64{7, 9, 8}, false}, {7, 9, []int64{8, 7, 9}, false},
		{7, 9, []int64{9, 9, 9, 9, 8}, false}, {7, 9, []int64{7, 7, 7, 7, 6}, false}, {7, 9, []int64{7, 7, 7, 7, 10}, false}, {7, 9, []int64{7, 10, 7}, false}, {0, 9, []int64{0}, false},
	} {
		l := bareLetter(3)
		l.Mark, l.Reign, l.List = c.mark, c.reign, told(c.reigns...)
		checkLetterOkOfBoth(t, l, c.want)
	}
}

func TestLetterOkOfBooks(t *testing.T) {
	for _, b := range append(someBooks(), aBook(), otherBook()) {
		for _, l := range eachLetter(t) {
			empty := len(b.Shelf) == 0 && len(b.Lasts) == 0
			checkLetterOkOfBoth(t, withBook(l, b), empty || l.Kind == impl.LtGift)
		}
	}
	for _, b := range wrongBooks() {
		for _, l := range eachLetter(t) {
			checkLetterOkOfBoth(t, withBook(l, b), false)
		}
	}
}

// What is not told is zero, each thing by itself; what is told may be zero,
// too, each thing by itself.
func TestLetterOkOfWhatIsToldAndNot(t *testing.T) {
	for _, kind := range letterKinds() {
		for _, part := range letterParts() {
			for _, l := range []impl.Letter{bareLetter(kind), letterOf(t, kind)} {
				part.some(&l)
				checkLetterOkOfBoth(t, l, strings.Contains(toldBy(kind), part.sign))
				part.none(&l)
				checkLetterOkOfBoth(t, l, true)
			}
		}
	}
}

// An empty list is nil, so it is zero where it is not told.
func TestLetterOkOfEmptyLists(t *testing.T) {
	for _, l := range eachLetter(t) {
		l.List, l.Book = []impl.Entry{}, impl.Book{Shelf: []impl.Work{}, Lasts: []impl.Last{}}
		checkLetterOkOfBoth(t, l, true)
		l.List, l.Book = told(1, 2)[:0], impl.Book{Shelf: shelfOfLength(2)[:0], Lasts: lastsOf(1, 2)[:0]}
		checkLetterOkOfBoth(t, l, true)
	}
}

func TestKindOfAsTold(t *testing.T) {
	words := []string{"", "ask", "vote", "add", "got", "gift", ""}
	for kind, want := range words {
		if got := impl.KindOf(impl.Letter{Kind: int64(kind)}); got != want {
			t.Errorf("KindOf of %d is %q, not %q", kind, got, want)
		}
	}
	for _, kind := range append(farOff(), -1, 0, 6, 7, 8, 257, 1<<32+1, 1<<32+3, math.MinInt64+1, math.MinInt64+2) {
		if got := impl.KindOf(impl.Letter{Kind: kind}); got != "" {
			t.Errorf("KindOf of %d is %q", kind, got)
		}
		for _, l := range eachLetter(t) {
			l.Kind = kind
			checkKindOf(t, l)
		}
	}
}

// It is by the Kind alone, of what is right and of what is not.
func TestKindOfAnyLetter(t *testing.T) {
	for _, n := range counts() {
		for _, l := range append(someLetters(t, n), wrongLetters(t, n)...) {
			for kind := int64(-1); kind <= 6; kind++ {
				l.Kind = kind
				checkKindOf(t, l)
			}
		}
	}
}

// Two that are the same are so wherever their lists and texts stand, and
// whatever is in the spare room behind them.
func TestSameLetterOfTheSame(t *testing.T) {
	for _, n := range counts() {
		for _, l := range append(someLetters(t, n), wrongLetters(t, n)...) {
			checkSameLetter(t, l, l, true)
			checkSameLetter(t, l, keepLetter(l), true)
			checkSameLetter(t, l, viewedLetter(l).letter, true)
		}
	}
}

// unlike is the Letter with each thing changed alone, in its lists, too.
func unlike(l impl.Letter) []impl.Letter {
	var changed []impl.Letter
	// made keeps the Letter as it is, so that one thing alone is changed.
	made := func(change func(*impl.Letter)) {
		one := keepLetter(l)
		change(&one)
		changed = append(changed, one)
	}
	for at := range letterNumbers(&l) {
		for _, more := range []int64{math.MinInt64, -1, 1, 2, 1 << 8, 1 << 32} {
			made(func(one *impl.Letter) { *letterNumbers(one)[at] += more })
		}
	}
	made(func(one *impl.Letter) { one.Yes = !one.Yes })
	made(func(one *impl.Letter) { one.List = append(one.List, impl.Entry{}) })
	made(func(one *impl.Letter) { one.List = append([]impl.Entry{idle(1)}, one.List...) })
	made(func(one *impl.Letter) { one.Book.Shelf = append(one.Book.Shelf, impl.Work{}) })
	made(func(one *impl.Letter) { one.Book.Shelf = append([]impl.Work{named("a", 1)}, one.Book.Shelf...) })
	made(func(one *impl.Letter) { one.Book.Lasts = append(one.Book.Lasts, impl.Last{}) })
	made(func(one *impl.Letter) { one.Book.Lasts = append(lastsOf(0), one.Book.Lasts...) })
	for k := range l.List {
		changed = append(changed, unlikeInEntry(l, k)...)
	}
	return append(changed, unlikeInBook(l)...)
}

// unlikeInEntry is the Letter with each thing of that entry changed alone, and
// without it.
func unlikeInEntry(l impl.Letter, k int) []impl.Letter {
	var changed []impl.Letter
	for at := range numbersIn(&impl.Entry{}) {
		one := keepLetter(l)
		*numbersIn(&one.List[k])[at]++
		changed = append(changed, one)
	}
	for at := range textsIn(&impl.Entry{}) {
		for _, text := range []string{"x", "\x00"} {
			one := keepLetter(l)
			*textsIn(&one.List[k])[at] += text
			changed = append(changed, one)
		}
	}
	one := keepLetter(l)
	one.List = slices.Delete(one.List, k, k+1)
	return append(changed, one)
}

// unlikeInBook is the Letter with each part of its Book changed alone.
func unlikeInBook(l impl.Letter) []impl.Letter {
	var changed []impl.Letter
	made := func(change func(*impl.Book)) {
		one := keepLetter(l)
		change(&one.Book)
		changed = append(changed, one)
	}
	for k, w := range l.Book.Shelf {
		made(func(b *impl.Book) { b.Shelf = slices.Delete(b.Shelf, k, k+1) })
		made(func(b *impl.Book) { b.Shelf[k].Name += "x" })
		made(func(b *impl.Book) { b.Shelf[k].Owner++ })
		made(func(b *impl.Book) { b.Shelf[k].Copies = append(b.Shelf[k].Copies, impl.Copy{}) })
		for at := range w.Copies {
			made(func(b *impl.Book) { b.Shelf[k].Copies = slices.Delete(b.Shelf[k].Copies, at, at+1) })
			made(func(b *impl.Book) { b.Shelf[k].Copies[at].Edition.Major++ })
			made(func(b *impl.Book) { b.Shelf[k].Copies[at].Edition.Minor++ })
			made(func(b *impl.Book) { b.Shelf[k].Copies[at].Edition.Patch++ })
			made(func(b *impl.Book) { b.Shelf[k].Copies[at].Page += "x" })
			made(func(b *impl.Book) { b.Shelf[k].Copies[at].Hidden = !b.Shelf[k].Copies[at].Hidden })
		}
	}
	for k := range l.Book.Lasts {
		made(func(b *impl.Book) { b.Lasts = slices.Delete(b.Lasts, k, k+1) })
		made(func(b *impl.Book) { b.Lasts[k].Client++ })
		made(func(b *impl.Book) { b.Lasts[k].Seq++ })
		made(func(b *impl.Book) { b.Lasts[k].Reply.Code++ })
		made(func(b *impl.Book) { b.Lasts[k].Reply.Page += "x" })
	}
	return changed
}

// fullLetter is no right one: it has something of everything.
func fullLetter(t *testing.T) impl.Letter {
	t.Helper()
	l := withBook(letterOf(t, 3), aBook())
	l.Yes = true
	return l
}

func TestSameLetterOfOneThingChanged(t *testing.T) {
	letters := append(eachLetter(t), longLetters(t, 5)...)
	letters = append(letters, fullLetter(t), impl.Letter{}, impl.Letter{Kind: -1, From: 9, To: 9, Reign: -7, Index: -1, Mark: 8, List: []impl.Entry{{}, {Reign: -1}}, Commit: 1 << 40, Book: impl.Book{Shelf: []impl.Work{{}, {Name: "No name"}}, Lasts: []impl.Last{{}, {Client: -9}}}})
	for _, l := range letters {
		for _, other := range unlike(l) {
			checkSameLetter(t, l, other, false)
		}
	}
}

// The same things in another order, or at another place.
func TestSameLetterOfOtherPlaces(t *testing.T) {
	l := fullLetter(t)
	for i, a := range letterNumbers(&l) {
		for k, b := range letterNumbers(&l) {
			if *a != *b {
				other := keepLetter(l)
				*letterNumbers(&other)[i], *letterNumbers(&other)[k] = *b, *a
				checkSameLetter(t, l, other, false)
			}
		}
	}
	for at := range letterNumbers(&l) {
		var a, b impl.Letter
		*letterNumbers(&a)[at], *letterNumbers(&b)[(at+1)%7] = 1, 1
		checkSameLetter(t, a, b, false)
	}
	for _, change := range []func(*impl.Letter){
		func(l *impl.Letter) { slices.Reverse(l.List) }, func(l *impl.Letter) { slices.Reverse(l.Book.Shelf) }, func(l *impl.Letter) { slices.Reverse(l.Book.Lasts) },
		func(l *impl.Letter) { slices.Reverse(l.Book.Shelf[1].Copies) },
		func(l *impl.Letter) {
			l.Book.Shelf[0].Copies, l.Book.Shelf[1].Copies = l.Book.Shelf[1].Copies, l.Book.Shelf[0].Copies
		},
	} {
		other := keepLetter(l)
		change(&other)
		checkSameLetter(t, l, other, false)
	}
}

func TestSameLetterOfEmptyLists(t *testing.T) {
	changes := []func(*impl.Letter){
		func(l *impl.Letter) { l.List = []impl.Entry{} }, func(l *impl.Letter) { l.List = told(1, 2)[:0] },
		func(l *impl.Letter) { l.Book.Shelf = []impl.Work{} }, func(l *impl.Letter) { l.Book.Shelf = shelfOfLength(2)[:0] },
		func(l *impl.Letter) { l.Book.Lasts = []impl.Last{} }, func(l *impl.Letter) { l.Book.Lasts = lastsOf(1, 2)[:0] },
	}
	for _, kind := range []int64{-1, 1, 2, 3, 4, 5} {
		letters := []impl.Letter{bareLetter(kind)}
		for _, change := range changes {
			l := bareLetter(kind)
			change(&l)
			letters = append(letters, l)
		}
		for _, a := range letters {
			for _, b := range letters {
				checkSameLetter(t, a, b, true)
			}
		}
	}
	// Of Copies, too.
	a, b := letterOf(t, 5), letterOf(t, 5)
	a.Book.Shelf[0].Copies, b.Book.Shelf[0].Copies = nil, []impl.Copy{}
	checkSameLetter(t, a, b, true)
	b.Book.Shelf[0].Copies = workOfLength(3).Copies[:0]
	checkSameLetter(t, a, b, true)
	// The zero entry, Work and Last are each one, and not none.
	for _, other := range []impl.Letter{withList(bareLetter(3), impl.Entry{}), withBook(bareLetter(3), impl.Book{Shelf: []impl.Work{{}}}), withBook(bareLetter(3), impl.Book{Lasts: []impl.Last{{}}})} {
		checkSameLetter(t, bareLetter(3), other, false)
	}
}

func TestSameLetterTwoByTwo(t *testing.T) {
	letters := append(someLetters(t, 5), wrongLetters(t, 5)...)
	same := 0
	for i, a := range letters {
		for _, b := range letters[:i] {
			checkSameLetter(t, a, b, sameLetter(a, b))
			if impl.SameLetter(a, b) {
				same++
			}
		}
	}
	if same == 0 || same == len(letters)*(len(letters)-1)/2 {
		t.Errorf("%d of all pairs are the same", same)
	}
}

// manyLetters is right ones, some things of which are changed at random.
func manyLetters(t *testing.T, r *rand.Rand, n int64, howMany int) []impl.Letter {
	t.Helper()
	near := []int64{-1, 0, 1, 2, 3, 4, 5, 6, 400, 401, 1000, 1001}
	books := append(someBooks(), wrongBooks()...)
	first := someLetters(t, n)
	var letters []impl.Letter
	for range howMany {
		l := keepLetter(first[r.Intn(len(first))])
		for range r.Intn(3) {
			*letterNumbers(&l)[r.Intn(7)] = near[r.Intn(len(near))]
		}
		switch r.Intn(10) {
		case 0:
			l.Yes = !l.Yes
		case 1:
			l.Book = books[r.Intn(len(books))]
		case 2:
			l.List = told(someReigns(r, r.Intn(7), 1+r.Int63n(3))...)
		case 3:
			l.Kind, l.Reign = impl.LtAdd, 1000
			l.List = manyEntries(t, 20)[r.Intn(14):][:r.Intn(6)]
		}
		letters = append(letters, l)
	}
	return letters
}

func TestLettersOfManyKinds(t *testing.T) {
	r := rand.New(rand.NewSource(12))
	right := 0
	for _, n := range counts() {
		letters := manyLetters(t, r, n, 4000)
		for i, l := range letters {
			if wantLetter(l, n) {
				right++
			}
			checkLetterOk(t, l, n, wantLetter(l, n))
			checkLetterOk(t, l, 8-n, wantLetter(l, 8-n))
			checkKindOf(t, l)
			other := letters[r.Intn(i+1)]
			checkSameLetter(t, l, other, sameLetter(l, other))
		}
	}
	if right < 1500 || right > 6500 {
		t.Errorf("%d are right", right)
	}
}

// Promise 21, of this chapter: each one answers at every argument, as the
// document tells.
func TestLettersAnswerAtEveryArgument(t *testing.T) {
	check := func(l impl.Letter, n int64) {
		t.Helper()
		checkLetterOk(t, l, n, wantLetter(l, n))
		checkKindOf(t, l)
		checkSameLetter(t, l, letterOf(t, 3), sameLetter(l, letterOf(t, 3)))
		checkSameLetter(t, l, impl.Letter{}, sameLetter(l, impl.Letter{}))
	}
	for _, number := range append(farOff(), -2, -1, 0, 1, 2, 3, 4, 5, 6, 31, 300, 400, 401, 1000, 1001) {
		for at := range letterNumbers(&impl.Letter{}) {
			for _, l := range append(eachLetter(t), fullLetter(t), impl.Letter{}) {
				*letterNumbers(&l)[at] = number
				check(l, 3)
				check(l, 5)
				check(l, number)
			}
		}
	}
	texts := someTexts()
	for i := 0; i < len(texts); i += 37 {
		entries, shelf, page, last := letterOf(t, 3), letterOf(t, 5), letterOf(t, 5), letterOf(t, 5)
		entries.List[0].Order.Deed.Name = texts[i]
		shelf.Book.Shelf[0].Name = texts[i]
		page.Book.Shelf[1].Copies[0].Page = texts[i]
		last.Book.Lasts[0].Reply.Page = texts[i]
		for _, l := range []impl.Letter{entries, shelf, page, last} {
			check(l, 5)
		}
	}
	for _, e := range manyEntries(t, 60) {
		check(withList(letterOf(t, 3), e, e), 5)
	}
}

// A letterView is a Letter whose texts and lists the test can change, with
// spare room behind each.
type letterView struct {
	letter impl.Letter
	list   entriesView
	book   bookView
}

func viewedLetter(l impl.Letter) letterView {
	v := letterView{list: viewedEntries(l.List), book: viewedBook(l.Book)}
	l.List, l.Book = v.list.entries, v.book.book
	v.letter = l
	return v
}

// shown is all that is in its lists, their spare room too, in memory of its
// own.
func (v letterView) shown() string { return v.list.shown() + "|" + v.book.shown() }

func (v letterView) spoil() {
	v.list.spoil()
	v.book.spoil()
}

// Promise 21, of this chapter: arguments stay, their spare room too, and what
// is answered is the same each time, also when they are changed behind it.
func TestLettersKeepTheirArguments(t *testing.T) {
	for _, n := range counts() {
		letters := append(someLetters(t, n), wrongLetters(t, n)...)
		for i, l := range append(letters, fullLetter(t)) {
			other := letters[i*7%len(letters)]
			kept, keptOther := letterText(l), letterText(other)
			v, w := viewedLetter(l), viewedLetter(other)
			before, beforeOther := v.shown(), w.shown()
			word := impl.KindOf(v.letter)
			for range 2 {
				if impl.LetterOk(v.letter, n) != wantLetter(l, n) || impl.SameLetter(v.letter, w.letter) != (kept == keptOther) || !impl.SameLetter(v.letter, v.letter) || impl.KindOf(v.letter) != word {
					t.Fatalf("of %v, %v it is told otherwise", l, other)
				}
			}
			if v.shown() != before || w.shown() != beforeOther || letterText(v.letter) != kept || letterText(w.letter) != keptOther {
				t.Fatalf("%s, %s are written into: %s, %s", before, beforeOther, v.shown(), w.shown())
			}
			v.spoil()
			w.spoil()
			if word != impl.KindOf(l) {
				t.Fatalf("KindOf(%v) was %q", l, word)
			}
		}
	}
}

// Two Letters, or two lists of one, may share their memory.
func TestLettersOfListsThatShareMemory(t *testing.T) {
	copies := workOfLength(6).Copies
	shared := impl.Book{Shelf: []impl.Work{named("elm", 0, copies[:3]...), named("oak", 2, copies[:5]...), named("yew", 1, copies...)}, Lasts: lastsOf(0, 2)}
	gift := withBook(letterOf(t, 5), shared)
	checkLetterOkOfBoth(t, gift, true)
	checkSameLetter(t, gift, withBook(gift, impl.Book{Shelf: shared.Shelf[:2], Lasts: shared.Lasts}), false)
	checkSameLetter(t, gift, withBook(gift, impl.Book{Shelf: shared.Shelf, Lasts: shared.Lasts[:1]}), false)
	all := told(1, 2, 3, 4, 4, 4)
	for n := range 7 {
		checkLetterOkOfBoth(t, withList(letterOf(t, 3), all[:n]...), n <= 5)
		for k := range 7 {
			checkSameLetter(t, withList(letterOf(t, 3), all[:n]...), withList(letterOf(t, 3), all[:k]...), n == k)
		}
	}
}

// letterRegions is the memory of all lists and texts of a Letter.
func letterRegions(l impl.Letter) []region {
	regions := append(bookRegions("Book", l.Book), listRegion("List", l.List))
	for i := range l.List {
		for _, text := range textsIn(&l.List[i]) {
			regions = append(regions, textRegion("a text of List", *text))
		}
	}
	return regions
}

// Promise 21, of this chapter: KindOf's answer is of no Letter's memory.
func TestKindOfSharesNoMemory(t *testing.T) {
	for _, l := range append(eachLetter(t), fullLetter(t)) {
		at := textRegion("KindOf", impl.KindOf(l))
		for _, other := range letterRegions(l) {
			if at.meets(other) {
				t.Errorf("KindOf(%v) shares memory with %s", l, other.name)
			}
		}
	}
}
