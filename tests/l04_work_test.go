package tests

import (
	"math"
	"slices"
	"sort"
	"strings"
	"testing"
	"unsafe"

	"loop.example/g00572/impl"
)

func aCopy(e impl.Edition, page string) impl.Copy { return impl.Copy{Edition: e, Page: page} }

func hiddenCopy(e impl.Edition, page string) impl.Copy {
	return impl.Copy{Edition: e, Page: page, Hidden: true}
}

func work(copies ...impl.Copy) impl.Work {
	return impl.Work{Name: "oak", Owner: 2, Copies: copies}
}

// fourCopies are of two Majors, one Hidden in each, and one without a page.
func fourCopies() impl.Work {
	return work(aCopy(edition(0, 5, 0), "root"), hiddenCopy(edition(0, 7, 1), "bark"), aCopy(edition(1, 0, 0), ""), hiddenCopy(edition(1, 0, 2), "leaf"))
}

// workOfLength has its Copies at 0.0.1, 0.0.3, 0.0.5 and so on.
func workOfLength(n int) impl.Work {
	w := work()
	for i := range n {
		w.Copies = append(w.Copies, aCopy(edition(0, 0, int64(2*i+1)), "p"+string(rune('a'+i))))
	}
	return w
}

func keepWork(w impl.Work) impl.Work {
	w.Name = strings.Clone(w.Name)
	w.Copies = append([]impl.Copy(nil), w.Copies...)
	for i := range w.Copies {
		w.Copies[i].Page = strings.Clone(w.Copies[i].Page)
	}
	return w
}

// sameWork has no difference between an empty list and nil, as the document.
func sameWork(a, b impl.Work) bool {
	return a.Name == b.Name && a.Owner == b.Owner && slices.Equal(a.Copies, b.Copies)
}

// The document's words once more, by another way than the program's: a right
// edition is one number, and its copies are right when to sort them, and to
// drop those of one number, leaves them as they are.
func editionNumber(e impl.Edition) int { return int(e.Major*10000 + e.Minor*100 + e.Patch) }

func sortedCopies(copies []impl.Copy) []impl.Copy {
	byNumber := map[int]impl.Copy{}
	var numbers []int
	for _, c := range copies {
		n := editionNumber(c.Edition)
		if _, is := byNumber[n]; !is {
			numbers = append(numbers, n)
		}
		byNumber[n] = c
	}
	sort.Ints(numbers)
	var out []impl.Copy
	for _, n := range numbers {
		out = append(out, byNumber[n])
	}
	return out
}

func wantWork(w impl.Work) bool {
	if !wantName(w.Name) || w.Owner != 0 && w.Owner != 1 && w.Owner != 2 && w.Owner != 3 || len(w.Copies) > 8 {
		return false
	}
	for _, c := range w.Copies {
		if !wantEdition(c.Edition) || !wantPage(c.Page) {
			return false
		}
	}
	return slices.Equal(sortedCopies(w.Copies), w.Copies)
}

func wantCopyIn(w impl.Work, e impl.Edition) (impl.Copy, bool) {
	var found impl.Copy
	is := false
	for _, c := range w.Copies {
		if wantWork(w) && c.Edition == e {
			found, is = c, true
		}
	}
	return found, is
}

func wantPrinted(w impl.Work, e impl.Edition, page string) (impl.Work, bool) {
	if !wantWork(w) {
		return impl.Work{}, false
	}
	_, is := wantCopyIn(w, e)
	if is || !wantEdition(e) || !wantPage(page) || len(w.Copies) >= 8 {
		return w, false
	}
	out := keepWork(w)
	out.Copies = sortedCopies(append(out.Copies, aCopy(e, page)))
	return out, true
}

func wantVeiled(w impl.Work, e impl.Edition, hidden bool) (impl.Work, bool) {
	if !wantWork(w) {
		return impl.Work{}, false
	}
	c, is := wantCopyIn(w, e)
	if !is {
		return w, false
	}
	c.Hidden = hidden
	out := keepWork(w)
	out.Copies = sortedCopies(append(out.Copies, c))
	return out, true
}

func wantNewest(w impl.Work, want impl.Edition) (impl.Edition, bool) {
	best := -1
	for _, c := range w.Copies {
		n := editionNumber(c.Edition)
		if wantWork(w) && wantEdition(want) && !c.Hidden && c.Edition.Major == want.Major && n >= editionNumber(want) {
			best = max(best, n)
		}
	}
	if best < 0 {
		return impl.Edition{}, false
	}
	return edition(int64(best/10000), int64(best/100%100), int64(best%100)), true
}

func checkWorkOk(t *testing.T, w impl.Work, want bool) {
	t.Helper()
	if wantWork(w) != want {
		t.Fatalf("the test takes %v otherwise", w)
	}
	if impl.WorkOk(w) != want {
		t.Errorf("WorkOk(%v) is %v", w, !want)
	}
}

func checkCopyIn(t *testing.T, w impl.Work, e impl.Edition) {
	t.Helper()
	want, wantIs := wantCopyIn(w, e)
	if got, is := impl.CopyIn(w, e); got != want || is != wantIs {
		t.Fatalf("CopyIn(%v, %v) is %v, %v, not %v, %v", w, e, got, is, want, wantIs)
	}
}

func checkPrinted(t *testing.T, w impl.Work, e impl.Edition, page string) {
	t.Helper()
	want, wantIs := wantPrinted(w, e, page)
	if got, is := impl.Printed(w, e, page); !sameWork(got, want) || is != wantIs {
		t.Fatalf("Printed(%v, %v, %q) is %v, %v, not %v, %v", w, e, page, got, is, want, wantIs)
	}
}

func checkVeiled(t *testing.T, w impl.Work, e impl.Edition, hidden bool) {
	t.Helper()
	want, wantIs := wantVeiled(w, e, hidden)
	if got, is := impl.Veiled(w, e, hidden); !sameWork(got, want) || is != wantIs {
		t.Fatalf("Veiled(%v, %v, %v) is %v, %v, not %v, %v", w, e, hidden, got, is, want, wantIs)
	}
}

func checkNewest(t *testing.T, w impl.Work, e impl.Edition) {
	t.Helper()
	want, wantIs := wantNewest(w, e)
	if got, is := impl.Newest(w, e); got != want || is != wantIs {
		t.Fatalf("Newest(%v, %v) is %v, %v, not %v, %v", w, e, got, is, want, wantIs)
	}
}

// checkNothingOf asks for each function's one answer of a Work that is not
// WorkOk.
func checkNothingOf(t *testing.T, w impl.Work) {
	t.Helper()
	checkWorkOk(t, w, false)
	wanted := []impl.Edition{edition(0, 0, 0), edition(1, 0, 0), edition(0, 5, 0), edition(100, 0, 0)}
	for _, c := range w.Copies {
		wanted = append(wanted, c.Edition)
	}
	for _, e := range wanted {
		if c, is := impl.CopyIn(w, e); is || c != (impl.Copy{}) {
			t.Errorf("CopyIn(%v, %v) is %v, %v", w, e, c, is)
		}
		if x, is := impl.Printed(w, e, "new"); is || !sameWork(x, impl.Work{}) {
			t.Errorf("Printed(%v, %v) is %v, %v", w, e, x, is)
		}
		for _, hidden := range []bool{false, true} {
			if x, is := impl.Veiled(w, e, hidden); is || !sameWork(x, impl.Work{}) {
				t.Errorf("Veiled(%v, %v, %v) is %v, %v", w, e, hidden, x, is)
			}
		}
		if n, is := impl.Newest(w, e); is || n != (impl.Edition{}) {
			t.Errorf("Newest(%v, %v) is %v, %v", w, e, n, is)
		}
	}
}

// smallEditions are some that are close to one another.
func smallEditions() []impl.Edition {
	return []impl.Edition{edition(0, 0, 1), edition(0, 1, 0), edition(1, 0, 0), edition(1, 0, 1), edition(1, 1, 0)}
}

// smallWorks is every Work of some of smallEditions, each Hidden or not.
func smallWorks() []impl.Work {
	works := []impl.Work{work()}
	for i, e := range smallEditions() {
		for _, w := range works {
			for _, hidden := range []bool{false, true} {
				x := keepWork(w)
				x.Copies = append(x.Copies, impl.Copy{Edition: e, Page: "page" + string(rune('0'+i)), Hidden: hidden})
				works = append(works, x)
			}
		}
	}
	return works
}

// wrongWorks is one with each thing that may be wrong, beside right ones.
func wrongWorks() []impl.Work {
	works := []impl.Work{{}, workOfLength(9), workOfLength(20)}
	for _, name := range []string{"", "-", "-a", "a-", "a--b", "Oak", "oak1", "oak ", "abcdefghi", "\xff"} {
		w := fourCopies()
		w.Name = name
		works = append(works, w)
	}
	for _, owner := range []int64{math.MinInt64, -1, 4, 5, 256, 1 << 32, math.MaxInt64} {
		w := fourCopies()
		w.Owner = owner
		works = append(works, w)
	}
	for i := range 4 {
		for _, page := range []string{"A", "-", "a b", "a_b", "abcdefghijklm", "\xff"} {
			w := fourCopies()
			w.Copies[i].Page = page
			works = append(works, w)
		}
		for _, e := range []impl.Edition{edition(-1, 0, 0), edition(100, 0, 0), edition(0, -1, 0), edition(0, 100, 0), edition(0, 0, -1), edition(0, 0, 100), edition(1, 0, 100), edition(0, 7, 200)} {
			w := fourCopies()
			w.Copies[i].Edition = e
			works = append(works, w)
		}
		for k := range 4 {
			w := fourCopies()
			w.Copies[i], w.Copies[k] = w.Copies[k], w.Copies[i]
			twice := fourCopies()
			twice.Copies[i].Edition = twice.Copies[k].Edition
			if i != k {
				works = append(works, w, twice)
			}
		}
	}
	return works
}

func TestMaxCopiesAsTold(t *testing.T) {
	if impl.MaxCopies != 8 {
		t.Errorf("MaxCopies is %d", impl.MaxCopies)
	}
}

func TestWorkOkOfNames(t *testing.T) {
	for name, want := range map[string]bool{
		"a": true, "oak": true, "a-b": true, "abcdefgh": true, "a-b-c-de": true,
		"": false, "-": false, "-a": false, "a-": false, "a--b": false, "abcdefghi": false, "Oak": false, "a_b": false, "oak1": false, " oak": false, "oak\n": false, "\xff": false,
	} {
		for _, w := range []impl.Work{work(), fourCopies()} {
			w.Name = name
			checkWorkOk(t, w, want)
		}
	}
}

func TestWorkOkOfOwners(t *testing.T) {
	for _, c := range []struct {
		owner int64
		want  bool
	}{
		{math.MinInt64, false}, {-1, false}, {0, true}, {1, true}, {2, true}, {3, true}, {4, false}, {256, false}, {1 << 32, false}, {math.MaxInt64, false},
	} {
		for _, w := range []impl.Work{work(), fourCopies()} {
			w.Owner = c.owner
			checkWorkOk(t, w, c.want)
		}
	}
}

func TestWorkOkByLength(t *testing.T) {
	for n := range 12 {
		checkWorkOk(t, workOfLength(n), n <= 8)
	}
	checkWorkOk(t, impl.Work{Name: "oak", Copies: []impl.Copy{}}, true)
	checkWorkOk(t, impl.Work{Name: "oak", Copies: nil}, true)
	checkWorkOk(t, impl.Work{Name: "oak", Copies: make([]impl.Copy, 1)}, true)
	checkWorkOk(t, impl.Work{Name: "oak", Copies: make([]impl.Copy, 2)}, false)
	checkWorkOk(t, impl.Work{Name: "oak", Copies: make([]impl.Copy, 100000)}, false)
}

func TestWorkOkOfCopies(t *testing.T) {
	low, high := edition(0, 0, 0), edition(99, 99, 99)
	for _, c := range []struct {
		middle impl.Copy
		want   bool
	}{
		{aCopy(edition(1, 2, 3), ""), true}, {aCopy(edition(1, 2, 3), "leaf"), true}, {hiddenCopy(edition(1, 2, 3), "leaf"), true}, {hiddenCopy(edition(1, 2, 3), ""), true},
		{aCopy(edition(0, 0, 1), "0"), true}, {aCopy(edition(99, 99, 98), "0"), true}, {aCopy(edition(1, 2, 3), "abcdefghijkl"), true}, {aCopy(edition(1, 2, 3), "0123456789ab"), true},
		{aCopy(edition(1, 2, 3), "abcdefghijklm"), false}, {aCopy(edition(1, 2, 3), "A"), false}, {aCopy(edition(1, 2, 3), "-"), false}, {aCopy(edition(1, 2, 3), " "), false}, {hiddenCopy(edition(1, 2, 3), "a-b"), false}, {aCopy(edition(1, 2, 3), "\x80"), false},
		{aCopy(edition(1, 2, -1), ""), false}, {aCopy(edition(1, 2, 100), ""), false}, {aCopy(edition(1, -1, 3), ""), false}, {aCopy(edition(1, 100, 3), ""), false},
		{aCopy(edition(-1, 2, 3), ""), false}, {aCopy(edition(100, 2, 3), ""), false}, {hiddenCopy(edition(1, 2, 100), ""), false}, {aCopy(edition(1, math.MaxInt64, 3), ""), false}, {aCopy(edition(1, 2, math.MinInt64), ""), false},
	} {
		checkWorkOk(t, work(c.middle), c.want)
		checkWorkOk(t, work(aCopy(low, "a"), c.middle), c.want)
		checkWorkOk(t, work(c.middle, aCopy(high, "z")), c.want)
		checkWorkOk(t, work(aCopy(low, "a"), c.middle, aCopy(high, "z")), c.want)
	}
}

// Editions that are not right at an end of the list are in Older's order.
func TestWorkOkOfWrongEditionsInOrder(t *testing.T) {
	checkWorkOk(t, work(aCopy(edition(-1, 0, 0), ""), aCopy(edition(0, 0, 0), "")), false)
	checkWorkOk(t, work(aCopy(edition(0, 0, 0), ""), aCopy(edition(100, 0, 0), "")), false)
	checkWorkOk(t, work(aCopy(edition(1, 0, 99), ""), aCopy(edition(1, 0, 100), ""), aCopy(edition(1, 1, 0), "")), false)
}

func TestWorkOkOfOrders(t *testing.T) {
	for _, c := range []struct {
		editions []impl.Edition
		want     bool
	}{
		{[]impl.Edition{edition(0, 0, 1), edition(0, 0, 2)}, true}, {[]impl.Edition{edition(0, 9, 9), edition(1, 0, 0)}, true}, {[]impl.Edition{edition(1, 9, 9), edition(1, 10, 0)}, true}, {[]impl.Edition{edition(9, 0, 0), edition(10, 0, 0)}, true},
		{[]impl.Edition{edition(0, 0, 2), edition(0, 0, 1)}, false}, {[]impl.Edition{edition(1, 0, 0), edition(0, 9, 9)}, false}, {[]impl.Edition{edition(1, 10, 0), edition(1, 9, 9)}, false}, {[]impl.Edition{edition(10, 0, 0), edition(9, 0, 0)}, false},
		{[]impl.Edition{edition(1, 2, 3), edition(1, 2, 3)}, false}, {[]impl.Edition{edition(0, 0, 0), edition(0, 0, 0)}, false},
		{[]impl.Edition{edition(1, 0, 0), edition(1, 0, 1), edition(1, 0, 1)}, false}, {[]impl.Edition{edition(1, 0, 0), edition(1, 0, 0), edition(1, 0, 1)}, false},
		{[]impl.Edition{edition(1, 0, 0), edition(3, 0, 0), edition(2, 0, 0)}, false}, {[]impl.Edition{edition(2, 0, 0), edition(1, 0, 0), edition(3, 0, 0)}, false}, {[]impl.Edition{edition(1, 0, 0), edition(2, 0, 0), edition(1, 0, 0)}, false},
	} {
		w := work()
		for i, e := range c.editions {
			// Pages and Hidden ones tell nothing of the order.
			w.Copies = append(w.Copies, impl.Copy{Edition: e, Page: string(rune('z' - i)), Hidden: i%2 == 0})
		}
		checkWorkOk(t, w, c.want)
	}
}

func TestWorkOkOfAllOrders(t *testing.T) {
	rows := [][]impl.Copy{nil}
	for at := 0; at < len(rows); at++ {
		w := work(rows[at]...)
		checkWorkOk(t, w, wantWork(w))
		for _, e := range smallEditions() {
			if len(rows[at]) < 4 {
				rows = append(rows, append(slices.Clone(rows[at]), aCopy(e, "")))
			}
		}
	}
}

// The last of eight is looked at as the first is.
func TestWorkOkAtEachPlace(t *testing.T) {
	for at := range 8 {
		page, tooNew, twice := workOfLength(8), workOfLength(8), workOfLength(8)
		page.Copies[at].Page = "A"
		tooNew.Copies[at].Edition.Patch = 100
		twice.Copies[at].Edition = twice.Copies[(at+1)%8].Edition
		for _, w := range []impl.Work{page, tooNew, twice} {
			checkWorkOk(t, w, false)
		}
	}
}

func TestCopyInAsTold(t *testing.T) {
	w := fourCopies()
	for _, want := range w.Copies {
		if got, is := impl.CopyIn(w, want.Edition); got != want || !is {
			t.Errorf("CopyIn(%v) is %v, %v", want.Edition, got, is)
		}
	}
	for _, e := range []impl.Edition{
		edition(0, 0, 0), edition(0, 4, 99), edition(0, 5, 1), edition(0, 7, 0), edition(0, 7, 2), edition(1, 0, 1), edition(1, 0, 3), edition(2, 0, 0), edition(99, 99, 99),
		edition(-1, 0, 0), edition(100, 0, 0), edition(0, 5, -1), edition(0, 5, 100), edition(math.MinInt64, 0, 0), edition(math.MaxInt64, 0, 0),
	} {
		if got, is := impl.CopyIn(w, e); is || got != (impl.Copy{}) {
			t.Errorf("CopyIn(%v) is %v, %v", e, got, is)
		}
		if got, is := impl.CopyIn(work(), e); is || got != (impl.Copy{}) {
			t.Errorf("CopyIn(%v) of none is %v, %v", e, got, is)
		}
	}
	for n := range 9 {
		w := workOfLength(n)
		for patch := range int64(20) {
			checkCopyIn(t, w, edition(0, 0, patch))
		}
	}
}

func TestPrintedWhereItBelongs(t *testing.T) {
	a, b, c := aCopy(edition(0, 5, 0), "root"), hiddenCopy(edition(1, 0, 0), "leaf"), aCopy(edition(1, 2, 0), "")
	for _, x := range []struct {
		before []impl.Copy
		e      impl.Edition
		page   string
		after  []impl.Copy
	}{
		{nil, edition(1, 0, 0), "leaf", []impl.Copy{aCopy(edition(1, 0, 0), "leaf")}},
		{[]impl.Copy{}, edition(0, 0, 0), "", []impl.Copy{aCopy(edition(0, 0, 0), "")}},
		{[]impl.Copy{a}, edition(0, 4, 99), "x", []impl.Copy{aCopy(edition(0, 4, 99), "x"), a}},
		{[]impl.Copy{a}, edition(0, 5, 1), "x", []impl.Copy{a, aCopy(edition(0, 5, 1), "x")}},
		{[]impl.Copy{a, b, c}, edition(0, 0, 0), "x", []impl.Copy{aCopy(edition(0, 0, 0), "x"), a, b, c}},
		{[]impl.Copy{a, b, c}, edition(0, 99, 99), "x", []impl.Copy{a, aCopy(edition(0, 99, 99), "x"), b, c}},
		{[]impl.Copy{a, b, c}, edition(1, 0, 1), "x", []impl.Copy{a, b, aCopy(edition(1, 0, 1), "x"), c}},
		{[]impl.Copy{a, b, c}, edition(1, 10, 0), "x", []impl.Copy{a, b, c, aCopy(edition(1, 10, 0), "x")}},
		{[]impl.Copy{a, b, c}, edition(99, 99, 99), "abcdefghijkl", []impl.Copy{a, b, c, aCopy(edition(99, 99, 99), "abcdefghijkl")}},
		{[]impl.Copy{a, b, c}, edition(1, 0, 1), "leaf", []impl.Copy{a, b, aCopy(edition(1, 0, 1), "leaf"), c}},
	} {
		got, is := impl.Printed(work(x.before...), x.e, x.page)
		if !is || !sameWork(got, work(x.after...)) {
			t.Errorf("Printed(%v, %v, %q) is %v, %v", x.before, x.e, x.page, got, is)
		}
	}
}

func TestPrintedKeepsNameAndOwner(t *testing.T) {
	for _, name := range []string{"a", "a-b", "abcdefgh"} {
		for owner := range int64(4) {
			w := impl.Work{Name: name, Owner: owner}
			printed, _ := impl.Printed(w, edition(1, 0, 0), "leaf")
			veiled, _ := impl.Veiled(printed, edition(1, 0, 0), true)
			for _, x := range []impl.Work{printed, veiled} {
				if x.Name != name || x.Owner != owner || len(x.Copies) != 1 {
					t.Errorf("of %v it is %v", w, x)
				}
			}
		}
	}
}

func TestPrintedOfWhatIsRefused(t *testing.T) {
	refused := func(w impl.Work, e impl.Edition, page string) {
		t.Helper()
		if got, is := impl.Printed(w, e, page); is || !sameWork(got, w) {
			t.Errorf("Printed(%v, %v, %q) is %v, %v", w, e, page, got, is)
		}
	}
	for _, w := range []impl.Work{work(), fourCopies(), workOfLength(7), workOfLength(8)} {
		for _, c := range w.Copies {
			refused(w, c.Edition, "other")
			refused(w, c.Edition, c.Page)
			refused(w, c.Edition, "")
			refused(w, c.Edition, "A")
		}
		for _, e := range []impl.Edition{
			edition(-1, 0, 0), edition(100, 0, 0), edition(0, -1, 0), edition(0, 100, 0), edition(0, 0, -1), edition(0, 0, 100),
			edition(math.MinInt64, 0, 0), edition(math.MaxInt64, 0, 0), edition(0, 0, math.MinInt64), edition(1, math.MaxInt64, 0),
		} {
			refused(w, e, "leaf")
			refused(w, e, "A")
		}
		for _, page := range []string{"A", "-", " ", "a-b", "a_b", "leaf ", "leaf\n", "\x00", "\xff", "abcdefghijklm", strings.Repeat("a", 5000)} {
			refused(w, edition(50, 0, 0), page)
		}
	}
	for _, e := range []impl.Edition{edition(0, 0, 0), edition(0, 0, 2), edition(0, 0, 8), edition(0, 0, 99), edition(99, 0, 0)} {
		refused(workOfLength(8), e, "leaf")
	}
}

func TestPrintedByLength(t *testing.T) {
	for n := range 9 {
		for patch := range int64(20) {
			checkPrinted(t, workOfLength(n), edition(0, 0, patch), "new")
		}
	}
	full, is := impl.Printed(workOfLength(7), edition(0, 0, 6), "new")
	if !is || len(full.Copies) != 8 || !impl.WorkOk(full) {
		t.Errorf("the eighth one is not taken: %v, %v", full, is)
	}
	if _, is := impl.Printed(full, edition(0, 0, 8), "new"); is {
		t.Error("a ninth one is taken")
	}
}

func TestVeiledAsTold(t *testing.T) {
	for at, c := range fourCopies().Copies {
		for _, hidden := range []bool{false, true} {
			want := fourCopies()
			want.Copies[at].Hidden = hidden
			if got, is := impl.Veiled(fourCopies(), c.Edition, hidden); !is || !sameWork(got, want) {
				t.Errorf("Veiled(%v, %v) is %v, %v", c.Edition, hidden, got, is)
			}
		}
	}
	for _, e := range []impl.Edition{
		edition(0, 0, 0), edition(0, 4, 99), edition(0, 5, 1), edition(0, 7, 0), edition(1, 0, 1), edition(1, 0, 3), edition(99, 99, 99),
		edition(-1, 0, 0), edition(100, 0, 0), edition(0, 5, 100), edition(math.MinInt64, 0, 0), edition(math.MaxInt64, 0, 0),
	} {
		for _, hidden := range []bool{false, true} {
			for _, w := range []impl.Work{work(), fourCopies(), workOfLength(8)} {
				if got, is := impl.Veiled(w, e, hidden); is || !sameWork(got, w) {
					t.Errorf("Veiled(%v, %v, %v) is %v, %v", w, e, hidden, got, is)
				}
			}
		}
	}
	for at, c := range workOfLength(8).Copies {
		got, is := impl.Veiled(workOfLength(8), c.Edition, true)
		want := workOfLength(8)
		want.Copies[at].Hidden = true
		if !is || !sameWork(got, want) {
			t.Errorf("Veiled(%v) of eight is %v, %v", c.Edition, got, is)
		}
	}
}

func TestNewestAsTold(t *testing.T) {
	w := work(
		aCopy(edition(0, 9, 0), "a"), aCopy(edition(1, 0, 0), "b"), aCopy(edition(1, 2, 0), "c"), hiddenCopy(edition(1, 3, 0), "d"),
		hiddenCopy(edition(2, 0, 0), "e"), aCopy(edition(3, 0, 0), "f"), hiddenCopy(edition(3, 0, 1), "g"), aCopy(edition(3, 10, 0), ""),
	)
	for _, c := range []struct{ want, newest impl.Edition }{
		{edition(0, 0, 0), edition(0, 9, 0)}, {edition(0, 9, 0), edition(0, 9, 0)},
		{edition(1, 0, 0), edition(1, 2, 0)}, {edition(1, 0, 1), edition(1, 2, 0)}, {edition(1, 2, 0), edition(1, 2, 0)},
		{edition(3, 0, 0), edition(3, 10, 0)}, {edition(3, 9, 99), edition(3, 10, 0)}, {edition(3, 10, 0), edition(3, 10, 0)},
	} {
		if got, is := impl.Newest(w, c.want); got != c.newest || !is {
			t.Errorf("Newest(%v) is %v, %v, not %v", c.want, got, is, c.newest)
		}
	}
	for _, want := range []impl.Edition{
		edition(0, 9, 1), edition(1, 2, 1), edition(1, 3, 0), edition(2, 0, 0), edition(3, 10, 1), edition(4, 0, 0), edition(99, 99, 99),
		edition(-1, 0, 0), edition(100, 0, 0), edition(1, -1, 0), edition(1, 0, -1), edition(0, 0, 100), edition(0, 100, 0), edition(3, math.MinInt64, 0), edition(3, 0, math.MinInt64),
	} {
		if got, is := impl.Newest(w, want); is || got != (impl.Edition{}) {
			t.Errorf("Newest(%v) is %v, %v", want, got, is)
		}
	}
	if got, is := impl.Newest(work(), edition(0, 0, 0)); is || got != (impl.Edition{}) {
		t.Errorf("Newest of none is %v, %v", got, is)
	}
	// The zero Edition is one as any other: the flag tells that it is found.
	if got, is := impl.Newest(work(aCopy(edition(0, 0, 0), "")), edition(0, 0, 0)); !is || got != (impl.Edition{}) {
		t.Errorf("Newest of 0.0.0 is %v, %v", got, is)
	}
}

func TestWorksOfWhatIsNotWorkOk(t *testing.T) {
	for _, w := range wrongWorks() {
		checkNothingOf(t, w)
	}
}

func TestWorksOfAllSmallWorks(t *testing.T) {
	asked := append(smallEditions(), edition(0, 0, 0), edition(0, 0, 2), edition(1, 0, 2), edition(2, 0, 0), edition(-1, 0, 0), edition(0, 0, 100))
	for _, w := range smallWorks() {
		checkWorkOk(t, w, true)
		for _, e := range asked {
			checkCopyIn(t, w, e)
			checkPrinted(t, w, e, "new")
			checkPrinted(t, w, e, "New")
			checkVeiled(t, w, e, false)
			checkVeiled(t, w, e, true)
			checkNewest(t, w, e)
		}
	}
}

// Promise 4, its first half: what was Printed is there, as it was, and so is
// all that was there ahead.
func TestWhatWasPrintedIsThere(t *testing.T) {
	for _, w := range append(smallWorks(), workOfLength(7), fourCopies()) {
		for _, e := range append(smallEditions(), edition(0, 0, 0), edition(0, 0, 4), edition(99, 99, 99)) {
			for _, page := range []string{"", "new", "abcdefghijkl"} {
				got, is := impl.Printed(w, e, page)
				if !is {
					continue
				}
				if c, there := impl.CopyIn(got, e); !there || c != aCopy(e, page) {
					t.Fatalf("Printed(%v, %v, %q), and CopyIn is %v, %v", w, e, page, c, there)
				}
				rest := slices.DeleteFunc(slices.Clone(got.Copies), func(c impl.Copy) bool { return c.Edition == e })
				if !slices.Equal(rest, w.Copies) || len(got.Copies) != len(w.Copies)+1 || !impl.WorkOk(got) {
					t.Fatalf("Printed(%v, %v, %q) is %v", w, e, page, got)
				}
			}
		}
	}
}

// Promise 4, its first half: for good, whatever is Printed or Veiled behind.
func TestWhatWasPrintedStaysForGood(t *testing.T) {
	pages := map[impl.Edition]string{}
	w := work()
	for i, patch := range []int64{9, 1, 5, 12, 3, 99, 0, 7, 8, 2} {
		e := edition(1, 0, patch)
		next, is := impl.Printed(w, e, "page"+string(rune('a'+i)))
		if is != (i < 8) {
			t.Fatalf("Printed(%v) is %v", e, is)
		}
		if is {
			pages[e] = "page" + string(rune('a'+i))
		}
		next, _ = impl.Veiled(next, e, i%2 == 0)
		if next, is = impl.Printed(next, e, "other"); is {
			t.Fatalf("%v is Printed twice", e)
		}
		w = next
		if len(w.Copies) != len(pages) || !impl.WorkOk(w) {
			t.Fatalf("it is %v", w)
		}
		for e, page := range pages {
			if c, there := impl.CopyIn(w, e); !there || c.Page != page || c.Edition != e {
				t.Fatalf("CopyIn(%v) is %v, %v, not of page %q", e, c, there, page)
			}
		}
	}
}

// Promise 4, its second half.
func TestVeiledBackIsTheSame(t *testing.T) {
	for _, w := range append(smallWorks(), workOfLength(8), fourCopies()) {
		for _, c := range w.Copies {
			other, is := impl.Veiled(w, c.Edition, !c.Hidden)
			if !is || sameWork(other, w) {
				t.Fatalf("Veiled(%v, %v, %v) is %v, %v", w, c.Edition, !c.Hidden, other, is)
			}
			if back, is := impl.Veiled(other, c.Edition, c.Hidden); !is || !sameWork(back, w) {
				t.Fatalf("Veiled back of %v is %v, %v", w, back, is)
			}
			if same, is := impl.Veiled(w, c.Edition, c.Hidden); !is || !sameWork(same, w) {
				t.Fatalf("Veiled(%v, %v, %v) is %v, %v", w, c.Edition, c.Hidden, same, is)
			}
		}
	}
}

// Promise 21, of this chapter: each one answers at every Work, edition and
// text, as the document tells.
func TestWorksAnswerAtEveryArgument(t *testing.T) {
	works := append(wrongWorks(), work(), fourCopies(), workOfLength(7), workOfLength(8), impl.Work{Name: "oak", Copies: make([]impl.Copy, 1000)})
	for _, w := range works {
		for _, e := range editionsOf(math.MinInt64, -1, 0, 1, 5, 99, 100, math.MaxInt64) {
			checkCopyIn(t, w, e)
			checkPrinted(t, w, e, "new")
			checkVeiled(t, w, e, true)
			checkNewest(t, w, e)
		}
	}
	for _, s := range someTexts() {
		named := fourCopies()
		named.Name = s
		checkWorkOk(t, named, wantName(s))
		paged := fourCopies()
		paged.Copies[2].Page = s
		checkWorkOk(t, paged, wantPage(s))
		checkPrinted(t, fourCopies(), edition(3, 0, 0), s)
		checkPrinted(t, paged, edition(3, 0, 0), "new")
		checkVeiled(t, paged, edition(1, 0, 0), true)
		checkCopyIn(t, paged, edition(1, 0, 0))
	}
}

// viewedWork is w with its texts in bytes, and its Copies in a list, that the
// test can change, and with spare room behind each.
func viewedWork(w impl.Work) (impl.Work, []byte, []impl.Copy) {
	text := w.Name
	for _, c := range w.Copies {
		text += c.Page
	}
	room := []byte(text + "SPARE_ROOM")
	rest := room
	view := func(n int) string {
		s := unsafe.String(&rest[0], n)
		rest = rest[n:]
		return s
	}
	out := impl.Work{Name: view(len(w.Name)), Owner: w.Owner}
	copies := make([]impl.Copy, len(w.Copies)+4)
	for i, c := range w.Copies {
		copies[i] = impl.Copy{Edition: c.Edition, Page: view(len(c.Page)), Hidden: c.Hidden}
	}
	for i := len(w.Copies); i < len(copies); i++ {
		copies[i] = aCopy(edition(7, 7, 7), "spare")
	}
	out.Copies = copies[:len(w.Copies)]
	return out, room, copies
}

// workCalls is each call that has a Work for its answer, taken and refused.
func workCalls(page string) map[string]func(impl.Work) (impl.Work, bool) {
	return map[string]func(impl.Work) (impl.Work, bool){
		"Printed ahead":   func(w impl.Work) (impl.Work, bool) { return impl.Printed(w, edition(0, 0, 0), page) },
		"Printed between": func(w impl.Work) (impl.Work, bool) { return impl.Printed(w, edition(0, 9, 0), page) },
		"Printed behind":  func(w impl.Work) (impl.Work, bool) { return impl.Printed(w, edition(9, 0, 0), page) },
		"Printed twice":   func(w impl.Work) (impl.Work, bool) { return impl.Printed(w, edition(0, 5, 0), page) },
		"Printed badly":   func(w impl.Work) (impl.Work, bool) { return impl.Printed(w, edition(9, 0, 0), "A") },
		"Veiled":          func(w impl.Work) (impl.Work, bool) { return impl.Veiled(w, edition(0, 5, 0), true) },
		"shown":           func(w impl.Work) (impl.Work, bool) { return impl.Veiled(w, edition(1, 0, 2), false) },
		"Veiled none":     func(w impl.Work) (impl.Work, bool) { return impl.Veiled(w, edition(9, 0, 0), true) },
	}
}

// Promise 21, of this chapter: arguments stay, their spare room too, and an
// answer is the same when they are changed behind it.
func TestWorksKeepTheirArguments(t *testing.T) {
	wrong := fourCopies()
	wrong.Owner = 4
	for _, w := range []impl.Work{fourCopies(), workOfLength(8), work(), wrong} {
		pageRoom := []byte("newpageSPARE_ROOM")
		for what, call := range workCalls(unsafe.String(&pageRoom[0], 7)) {
			copy(pageRoom, "newpage")
			want, wantIs := call(keepWork(w))
			want = keepWork(want)
			viewed, room, copies := viewedWork(w)
			roomBefore, copiesBefore := string(room), keepWork(work(copies...)).Copies
			impl.WorkOk(viewed)
			got, is := call(viewed)
			c, _ := impl.CopyIn(viewed, edition(0, 5, 0))
			impl.Newest(viewed, edition(0, 5, 0))
			if string(room) != roomBefore || !slices.Equal(copies, copiesBefore) || string(pageRoom) != "newpageSPARE_ROOM" {
				t.Fatalf("%s: %v was written into: %q, %v, %q", what, w, room, copies, pageRoom)
			}
			clear(copies)
			for i := range room {
				room[i] = '#'
			}
			for i := range 7 {
				pageRoom[i] = '#'
			}
			if !sameWork(got, want) || is != wantIs {
				t.Errorf("%s: the answer shares the memory of an argument: %v, not %v", what, got, want)
			}
			if wantCopy, _ := wantCopyIn(w, edition(0, 5, 0)); c != wantCopy {
				t.Errorf("CopyIn shares the memory of its argument: %v, not %v", c, wantCopy)
			}
		}
	}
}

// Promise 21, of this chapter: what is changed in an answer, or behind it in
// its spare room, is changed neither in the argument nor in the next answer.
func TestWorksAnswerAnewEachTime(t *testing.T) {
	for _, w := range []impl.Work{fourCopies(), workOfLength(7), workOfLength(8)} {
		viewed, _, copies := viewedWork(w)
		before := slices.Clone(copies)
		for what, call := range workCalls("newpage") {
			first, _ := call(viewed)
			want := keepWork(first)
			second, _ := call(viewed)
			clear(first.Copies[:cap(first.Copies)])
			if !slices.Equal(copies, before) {
				t.Fatalf("%s: a change of the answer changes the argument: %v", what, copies)
			}
			if third, _ := call(viewed); !sameWork(second, want) || !sameWork(third, want) {
				t.Fatalf("%s: a change of one answer changes another: %v, %v", what, second, third)
			}
			if unsafe.StringData(first.Name) == unsafe.StringData(second.Name) {
				t.Errorf("%s: two answers share their Name", what)
			}
		}
	}
}

func TestAnswerMayBeTheNextArgument(t *testing.T) {
	w := workOfLength(4)
	one, _ := impl.Printed(w, edition(5, 0, 0), "five")
	six, _ := impl.Printed(one, edition(6, 0, 0), "six")
	seven, _ := impl.Printed(one, edition(7, 0, 0), "seven")
	veiled, _ := impl.Veiled(one, edition(5, 0, 0), true)
	for x, last := range map[*impl.Work]impl.Copy{
		&one: aCopy(edition(5, 0, 0), "five"), &six: aCopy(edition(6, 0, 0), "six"), &seven: aCopy(edition(7, 0, 0), "seven"), &veiled: hiddenCopy(edition(5, 0, 0), "five"),
	} {
		if got := x.Copies[len(x.Copies)-1]; got != last {
			t.Errorf("the last of %v is not %v", *x, last)
		}
	}
}
