package tests

import (
	"math"
	"math/rand"
	"slices"
	"sort"
	"strconv"
	"strings"
	"testing"
	"unsafe"

	"loop.example/g00572/impl"
)

func named(name string, owner int64, copies ...impl.Copy) impl.Work {
	return impl.Work{Name: name, Owner: owner, Copies: copies}
}

// threeWorks is one without Copies, one with four, and one with no room.
func threeWorks() []impl.Work {
	return []impl.Work{named("elm", 0), fourCopies(), named("yew", 1, workOfLength(8).Copies...)}
}

// shelfOfLength has its Works of the Names b, d, f and so on, each with a Copy.
func shelfOfLength(n int) []impl.Work {
	var s []impl.Work
	for i := range n {
		s = append(s, named(string(rune('b'+2*i)), int64(i%4), aCopy(edition(int64(i), 0, 0), "p"+strconv.Itoa(i))))
	}
	return s
}

func keepShelf(s []impl.Work) []impl.Work {
	var out []impl.Work
	for _, w := range s {
		out = append(out, keepWork(w))
	}
	return out
}

// sameShelf has no difference between an empty list and nil, as the document.
func sameShelf(a, b []impl.Work) bool { return slices.EqualFunc(a, b, sameWork) }

func deedOf(t *testing.T, line string) impl.Deed {
	t.Helper()
	d, is := impl.ReadDeed(line)
	if !is {
		t.Fatalf("%q is no deed", line)
	}
	return d
}

// The document's words once more, by another way than the program's: names
// rise when to sort them, and to drop what is there twice, leaves them as they
// are; and of all codes that apply the first one is taken.
func wantShelf(s []impl.Work) bool {
	var names []string
	for _, w := range s {
		if !wantWork(w) {
			return false
		}
		names = append(names, w.Name)
	}
	sorted := slices.Clone(names)
	sort.Strings(sorted)
	return len(s) <= 5 && slices.Equal(slices.Compact(sorted), names)
}

func wantWorkIn(s []impl.Work, name string) (impl.Work, bool) {
	at := slices.IndexFunc(s, func(w impl.Work) bool { return w.Name == name })
	if at < 0 {
		return impl.Work{}, false
	}
	return s[at], true
}

// wantCodes is the codes that apply, by the chapter's order.
func wantCodes(s []impl.Work, d impl.Deed) []int64 {
	w, is := wantWorkIn(s, d.Name)
	c, there := wantCopyIn(w, d.Edition)
	rows := map[int64][]struct {
		applies bool
		code    int64
	}{
		1: {{is, 2}, {len(s) >= 5, 4}},
		2: {{!is, 1}, {w.Owner != d.Who, 3}, {there, 2}, {len(w.Copies) >= 8, 4}},
		3: {{!is, 1}, {w.Owner != d.Who, 3}, {!there, 1}},
		4: {{!is, 1}, {w.Owner != d.Who, 3}, {!there, 1}},
		5: {{!is || !there, 1}, {c.Hidden, 5}},
		6: {{!is, 1}, {w.Owner != d.Who, 3}},
	}
	var codes []int64
	if !wantDeed(d) || d.Kind == 6 && d.Edition.Major > 3 {
		codes = append(codes, 7)
	}
	for _, row := range rows[d.Kind] {
		if row.applies {
			codes = append(codes, row.code)
		}
	}
	return codes
}

func wantDoes(s []impl.Work, d impl.Deed) ([]impl.Work, impl.Reply) {
	if !wantShelf(s) {
		return nil, impl.Reply{Code: 7}
	}
	if codes := wantCodes(s, d); len(codes) > 0 {
		return s, impl.Reply{Code: codes[0]}
	}
	w, is := wantWorkIn(s, d.Name)
	reply := impl.Reply{}
	switch d.Kind {
	case 1:
		w = named(d.Name, d.Who)
	case 2:
		w, _ = wantPrinted(w, d.Edition, d.Page)
	case 3, 4:
		w, _ = wantVeiled(w, d.Edition, d.Kind == 3)
	case 5:
		c, _ := wantCopyIn(w, d.Edition)
		reply.Page = c.Page
	case 6:
		w.Owner = d.Edition.Major
	}
	out := keepShelf(s)
	if !is {
		out = append(out, w)
	}
	for i := range out {
		if out[i].Name == d.Name {
			out[i] = w
		}
	}
	sort.Slice(out, func(i, k int) bool { return out[i].Name < out[k].Name })
	return out, reply
}

func wantShownShelf(s []impl.Work) string {
	if !wantShelf(s) {
		return ""
	}
	text := ""
	for _, w := range s {
		text += "/" + w.Name + "@" + strconv.Itoa(int(w.Owner))
		for _, c := range w.Copies {
			text += " " + wantShown(c.Edition) + "=" + c.Page + strings.Repeat("*", map[bool]int{true: 1}[c.Hidden])
		}
	}
	return strings.TrimPrefix(text, "/")
}

func checkShelfOk(t *testing.T, s []impl.Work, want bool) {
	t.Helper()
	if wantShelf(s) != want {
		t.Fatalf("the test takes %v otherwise", s)
	}
	if impl.ShelfOk(s) != want {
		t.Errorf("ShelfOk(%v) is %v", s, !want)
	}
}

// checkWorkIn takes any one of that Name: of a list that has several, the
// document does not say which.
func checkWorkIn(t *testing.T, s []impl.Work, name string) {
	t.Helper()
	got, is := impl.WorkIn(s, name)
	want, wantIs := wantWorkIn(s, name)
	right := !wantIs && sameWork(got, impl.Work{})
	for _, w := range s {
		right = right || w.Name == name && sameWork(got, w)
	}
	if is != wantIs || !right {
		t.Fatalf("WorkIn(%v, %q) is %v, %v, not %v, %v", s, name, got, is, want, wantIs)
	}
}

func checkDoes(t *testing.T, s []impl.Work, d impl.Deed) {
	t.Helper()
	want, wantReply := wantDoes(s, d)
	if got, reply := impl.Does(s, d); !sameShelf(got, want) || reply != wantReply {
		t.Fatalf("Does(%v, %v) is %v, %v, not %v, %v", s, d, got, reply, want, wantReply)
	}
}

func checkShowShelf(t *testing.T, s []impl.Work) {
	t.Helper()
	if got, want := impl.ShowShelf(s), wantShownShelf(s); got != want {
		t.Fatalf("ShowShelf(%v) is %q, not %q", s, got, want)
	}
}

// checkDone asks for RpDone, for that Page, and for that shelf as it is shown.
func checkDone(t *testing.T, s []impl.Work, line, page, shown string) {
	t.Helper()
	got, reply := impl.Does(s, deedOf(t, line))
	if reply != (impl.Reply{Code: impl.RpDone, Page: page}) || impl.ShowShelf(got) != shown || !impl.ShelfOk(got) {
		t.Errorf("%q of %q is %q, %v, not %q", line, impl.ShowShelf(s), impl.ShowShelf(got), reply, shown)
	}
	checkDoes(t, s, deedOf(t, line))
}

// checkRefused asks for that code alone, and for the shelf as it was.
func checkRefused(t *testing.T, s []impl.Work, d impl.Deed, code int64) {
	t.Helper()
	got, reply := impl.Does(s, d)
	if reply != (impl.Reply{Code: code}) || !sameShelf(got, s) {
		t.Errorf("Does(%v, %v) is %v, %v, not of code %d", s, d, got, reply, code)
	}
	checkDoes(t, s, d)
}

// wrongShelves is one with each thing that may be wrong, beside right Works.
func wrongShelves() [][]impl.Work {
	shelves := [][]impl.Work{shelfOfLength(6), shelfOfLength(7), shelfOfLength(12), make([]impl.Work, 1), make([]impl.Work, 1000)}
	for i := range 3 {
		for _, w := range wrongWorks() {
			s := threeWorks()
			s[i] = w
			shelves = append(shelves, s)
		}
		for k := range 3 {
			swapped, twice, doubled := threeWorks(), threeWorks(), threeWorks()
			swapped[i], swapped[k] = swapped[k], swapped[i]
			twice[i].Name = twice[k].Name
			doubled[i] = doubled[k]
			if i != k {
				shelves = append(shelves, swapped, twice, doubled)
			}
		}
	}
	return shelves
}

// someShelves is right ones with and without room, for Works and for Copies.
func someShelves() [][]impl.Work {
	shelves := [][]impl.Work{nil, {}, threeWorks(), {named("oak", 2, workOfLength(7).Copies...)}, {named("oak", 2, workOfLength(8).Copies...)}, {named("a", 0), named("a-b", 1), named("aa", 2), named("abcdefgh", 3)}}
	for n := range 6 {
		shelves = append(shelves, shelfOfLength(n))
	}
	for i, w := range smallWorks() {
		if i%7 == 0 {
			shelves = append(shelves, []impl.Work{named("elm", 1, smallWorks()[i/2].Copies...), w})
		}
	}
	return shelves
}

// shelfDeeds is deeds, right and wrong ones, of what someShelves have and have not.
func shelfDeeds() []impl.Deed {
	editions := append(smallEditions(), edition(0, 0, 0), edition(0, 5, 0), edition(1, 0, 2), edition(3, 0, 0), edition(4, 0, 0), edition(99, 0, 0), edition(100, 0, 0), edition(-1, 0, 0))
	return deedsOf([]string{"", "a", "b", "elm", "oak", "yew", "Oak", "fir"}, editions, []string{"", "new", "New"}, []int64{-1, 0, 1, 2, 3, 4})
}

func TestShelfNumbersAsTold(t *testing.T) {
	codes := [8]int64{impl.RpDone, impl.RpNone, impl.RpThere, impl.RpOwner, impl.RpFull, impl.RpHidden, impl.RpOld, impl.RpBad}
	if codes != [8]int64{0, 1, 2, 3, 4, 5, 6, 7} || impl.MaxWorks != 5 {
		t.Error(codes, impl.MaxWorks)
	}
}

func TestShelfOkByLength(t *testing.T) {
	checkShelfOk(t, nil, true)
	checkShelfOk(t, []impl.Work{}, true)
	for n := range 12 {
		checkShelfOk(t, shelfOfLength(n), n <= 5)
	}
	checkShelfOk(t, make([]impl.Work, 1), false)
	checkShelfOk(t, make([]impl.Work, 100000), false)
	full := shelfOfLength(5)
	for i := range full {
		full[i].Copies = workOfLength(8).Copies
	}
	checkShelfOk(t, full, true)
}

func TestShelfOkOfOrders(t *testing.T) {
	for line, want := range map[string]bool{
		"elm": true, "elm oak": true, "elm oak yew": true, "a aa": true, "a a-b aa ab": true, "a-z aa": true, "abcdefg abcdefgh": true,
		"oak elm": false, "oak oak": false, "aa a": false, "aa a-z": false, "elm yew oak": false, "oak elm yew": false, "elm elm oak": false, "elm oak oak": false, "elm oak elm": false,
	} {
		var s []impl.Work
		for i, name := range strings.Fields(line) {
			// Owners and Copies tell nothing of the order.
			s = append(s, named(name, int64(3-i), workOfLength(3-i).Copies...))
		}
		checkShelfOk(t, s, want)
	}
}

// Every row of at most six of five Names, so of every order of them.
func TestShelfOkOfAllOrders(t *testing.T) {
	rows := [][]impl.Work{nil}
	right := 0
	for at := 0; at < len(rows); at++ {
		checkShelfOk(t, rows[at], wantShelf(rows[at]))
		if impl.ShelfOk(rows[at]) {
			right++
		}
		for _, name := range []string{"a", "a-a", "aa", "b", "z"} {
			if len(rows[at]) < 6 {
				rows = append(rows, append(slices.Clone(rows[at]), named(name, 0)))
			}
		}
	}
	if right != 32 {
		t.Errorf("of five Names %d shelves are right", right)
	}
}

func TestShelfOkOfWorksThatAreNot(t *testing.T) {
	for _, s := range wrongShelves() {
		checkShelfOk(t, s, false)
	}
	for at := range 5 {
		for _, w := range wrongWorks() {
			s := shelfOfLength(5)
			// Of a Name that would be in its place, where it is right itself.
			if wantName(w.Name) {
				w.Name = s[at].Name
			}
			s[at] = w
			checkShelfOk(t, s, false)
		}
	}
}

func TestWorkInAsTold(t *testing.T) {
	for n := range 6 {
		s := shelfOfLength(n)
		for _, want := range s {
			if got, is := impl.WorkIn(s, want.Name); !is || !sameWork(got, want) {
				t.Errorf("WorkIn(%v, %q) is %v, %v", s, want.Name, got, is)
			}
		}
		for _, name := range []string{"", "a", "c", "e", "z", "bb", "B", "b ", "-", "b-", "\xff", "abcdefghi"} {
			if got, is := impl.WorkIn(s, name); is || !sameWork(got, impl.Work{}) {
				t.Errorf("WorkIn(%v, %q) is %v, %v", s, name, got, is)
			}
		}
	}
	for _, name := range []string{"elm", "oak", "yew", "Oak", "OAK", "o_ak", "fir"} {
		checkWorkIn(t, threeWorks(), name)
	}
	// A Name is looked for as it is written, not Plain.
	if got, is := impl.WorkIn([]impl.Work{named("a-b", 1)}, "a_b"); is || !sameWork(got, impl.Work{}) {
		t.Errorf("WorkIn of a_b is %v, %v", got, is)
	}
}

func TestWorkInOfNamesThatDoNotRise(t *testing.T) {
	copies := []impl.Copy{aCopy(edition(0, 0, 0), ""), aCopy(edition(0, 2, 0), "x1"), hiddenCopy(edition(1, 0, 0), "abcdefghijkl"), aCopy(edition(1, 2, 0), "leaf")}
	ab, elm := named("a-b", 0, copies...), named("elm", 1)
	for _, s := range [][]impl.Work{{elm, ab}, {ab, named("oak", 0), elm}, {named("yew", 3), elm, named("oak", 2), ab}} {
		checkShelfOk(t, s, false)
		for _, want := range []impl.Work{ab, elm} {
			if got, is := impl.WorkIn(s, want.Name); !is || !sameWork(got, want) {
				t.Errorf("WorkIn(%v, %q) is %v, %v", s, want.Name, got, is)
			}
		}
		for _, name := range []string{"", "fir", "a", "a_b", "A-B", "zz"} {
			if got, is := impl.WorkIn(s, name); is || !sameWork(got, impl.Work{}) {
				t.Errorf("WorkIn(%v, %q) is %v, %v", s, name, got, is)
			}
		}
	}
}

func TestWorkInOfMoreThanMaxWorks(t *testing.T) {
	for _, n := range []int{6, 7, 12} {
		s := shelfOfLength(n)
		checkShelfOk(t, s, false)
		for i, want := range s {
			if got, is := impl.WorkIn(s, want.Name); !is || !sameWork(got, want) {
				t.Errorf("WorkIn of %d Works, of the one at %d, is %v, %v", n, i, got, is)
			}
		}
		for _, name := range []string{"", "a", "c", "z", "bb"} {
			if got, is := impl.WorkIn(s, name); is || !sameWork(got, impl.Work{}) {
				t.Errorf("WorkIn of %d Works, of %q, is %v, %v", n, name, got, is)
			}
		}
	}
}

// A Work that is not right is as it was in every field, and hides no other.
func TestWorkInOfWorksThatAreNotRight(t *testing.T) {
	for _, wrong := range wrongWorks() {
		for at := range 3 {
			s := []impl.Work{named("elm", 1), named("fir", 2, aCopy(edition(1, 0, 0), "leaf")), named("yew", 3)}
			s[at] = wrong
			checkShelfOk(t, s, false)
			for _, want := range s {
				if got, is := impl.WorkIn(s, want.Name); !is || !sameWork(got, want) {
					t.Errorf("WorkIn(%v, %q) is %v, %v", s, want.Name, got, is)
				}
			}
			if got, is := impl.WorkIn(s, "ash"); is || !sameWork(got, impl.Work{}) {
				t.Errorf("WorkIn(%v, ash) is %v, %v", s, got, is)
			}
		}
	}
	// The zero Work is one of the empty Name, where it is there.
	if got, is := impl.WorkIn(make([]impl.Work, 1), ""); !is || !sameWork(got, impl.Work{}) {
		t.Errorf("WorkIn of the zero Work is %v, %v", got, is)
	}
	if got, is := impl.WorkIn(nil, ""); is || !sameWork(got, impl.Work{}) {
		t.Errorf("WorkIn of nothing is %v, %v", got, is)
	}
}

func TestWorkInOfWhatIsNoShelf(t *testing.T) {
	for _, s := range wrongShelves() {
		names := []string{"elm", "oak", "yew", "fir", "ash", ""}
		for _, w := range s {
			names = append(names, w.Name)
		}
		for _, name := range names[:min(len(names), 18)] {
			checkWorkIn(t, s, name)
		}
	}
}

func TestClaimAsTold(t *testing.T) {
	for who := range int64(4) {
		digit := strconv.Itoa(int(who))
		checkDone(t, nil, "claim oak "+digit, "", "oak@"+digit)
	}
	s := []impl.Work{named("elm", 1, aCopy(edition(1, 0, 0), "leaf")), named("oak", 2)}
	checkDone(t, s, "claim ash 3", "", "ash@3/elm@1 1.0.0=leaf/oak@2")
	checkDone(t, s, "claim fir 0", "", "elm@1 1.0.0=leaf/fir@0/oak@2")
	checkDone(t, s, "claim yew 1", "", "elm@1 1.0.0=leaf/oak@2/yew@1")
	checkDone(t, s, "claim el 1", "", "el@1/elm@1 1.0.0=leaf/oak@2")
	checkDone(t, s, "claim elms 1", "", "elm@1 1.0.0=leaf/elms@1/oak@2")
	checkDone(t, s, "claim elm-a 1", "", "elm@1 1.0.0=leaf/elm-a@1/oak@2")
	for _, line := range []string{"claim elm 1", "claim elm 0", "claim oak 2", "claim oak 3"} {
		checkRefused(t, s, deedOf(t, line), impl.RpThere)
	}
}

func TestClaimAtEachLength(t *testing.T) {
	for n := range 6 {
		for i := range 12 {
			name := string(rune('a' + i))
			got, reply := impl.Does(shelfOfLength(n), deedOf(t, "claim "+name+" 3"))
			there := i%2 == 1 && i/2 < n
			switch {
			case there && (reply.Code != impl.RpThere || len(got) != n):
				t.Errorf("claim %s of %d is %v, %v", name, n, got, reply)
			case !there && n == 5 && (reply.Code != impl.RpFull || len(got) != n):
				t.Errorf("claim %s of %d is %v, %v", name, n, got, reply)
			case !there && n < 5 && (reply.Code != impl.RpDone || len(got) != n+1):
				t.Errorf("claim %s of %d is %v, %v", name, n, got, reply)
			}
			checkDoes(t, shelfOfLength(n), deedOf(t, "claim "+name+" 3"))
		}
	}
	checkDone(t, []impl.Work{named("b", 0), named("c", 0), named("d", 0), named("e", 0)}, "claim a 1", "", "a@1/b@0/c@0/d@0/e@0")
	checkRefused(t, shelfOfLength(5), deedOf(t, "claim a 1"), impl.RpFull)
	checkRefused(t, shelfOfLength(5), deedOf(t, "claim z 1"), impl.RpFull)
	// RpThere is named ahead of RpFull.
	checkRefused(t, shelfOfLength(5), deedOf(t, "claim b 0"), impl.RpThere)
	checkRefused(t, shelfOfLength(5), deedOf(t, "claim j 3"), impl.RpThere)
}

func TestPutAsTold(t *testing.T) {
	s := []impl.Work{named("elm", 1), named("oak", 2, aCopy(edition(1, 0, 0), "leaf"), hiddenCopy(edition(2, 0, 0), "root"))}
	checkDone(t, s, "put elm 0.0.0 - 1", "", "elm@1 0.0.0=/oak@2 1.0.0=leaf 2.0.0=root*")
	checkDone(t, s, "put oak 0.9.9 bark 2", "", "elm@1/oak@2 0.9.9=bark 1.0.0=leaf 2.0.0=root*")
	checkDone(t, s, "put oak 1.0.1 bark 2", "", "elm@1/oak@2 1.0.0=leaf 1.0.1=bark 2.0.0=root*")
	checkDone(t, s, "put oak 10.0.0 leaf 2", "", "elm@1/oak@2 1.0.0=leaf 2.0.0=root* 10.0.0=leaf")
	checkRefused(t, s, deedOf(t, "put fir 1.0.0 leaf 1"), impl.RpNone)
	checkRefused(t, nil, deedOf(t, "put oak 1.0.0 leaf 2"), impl.RpNone)
	checkRefused(t, s, deedOf(t, "put oak 3.0.0 leaf 1"), impl.RpOwner)
	checkRefused(t, s, deedOf(t, "put elm 3.0.0 leaf 0"), impl.RpOwner)
	checkRefused(t, s, deedOf(t, "put oak 1.0.0 leaf 2"), impl.RpThere)
	checkRefused(t, s, deedOf(t, "put oak 1.0.0 other 2"), impl.RpThere)
	checkRefused(t, s, deedOf(t, "put oak 2.0.0 other 2"), impl.RpThere)
}

func TestPutAtEachLength(t *testing.T) {
	for n := range 9 {
		s := []impl.Work{named("elm", 1), named("oak", 2, workOfLength(n).Copies...)}
		got, reply := impl.Does(s, deedOf(t, "put oak 0.0.4 new 2"))
		if n < 8 && (reply != impl.Reply{} || len(got[1].Copies) != n+1) {
			t.Errorf("put at %d is %v, %v", n, got, reply)
		}
		if n == 8 && (reply != impl.Reply{Code: impl.RpFull} || !sameShelf(got, s)) {
			t.Errorf("put at %d is %v, %v", n, got, reply)
		}
		checkDoes(t, s, deedOf(t, "put oak 0.0.4 new 2"))
		// A Work that has no room takes none from another.
		checkDone(t, s, "put elm 1.0.0 new 1", "", strings.Replace(impl.ShowShelf(s), "elm@1", "elm@1 1.0.0=new", 1))
	}
	// RpOwner is named ahead of RpThere, and RpThere ahead of RpFull.
	s := []impl.Work{named("oak", 2, workOfLength(8).Copies...)}
	checkRefused(t, s, deedOf(t, "put oak 0.0.1 new 1"), impl.RpOwner)
	checkRefused(t, s, deedOf(t, "put oak 0.0.2 new 1"), impl.RpOwner)
	checkRefused(t, s, deedOf(t, "put oak 0.0.1 new 2"), impl.RpThere)
	checkRefused(t, s, deedOf(t, "put oak 0.0.15 new 2"), impl.RpThere)
	checkRefused(t, s, deedOf(t, "put oak 0.0.16 new 2"), impl.RpFull)
	s[0].Copies = s[0].Copies[:7]
	checkRefused(t, s, deedOf(t, "put oak 0.0.1 new 1"), impl.RpOwner)
}

func TestHideAndShowAsTold(t *testing.T) {
	s := []impl.Work{named("elm", 1, aCopy(edition(1, 0, 0), "x")), named("oak", 2, aCopy(edition(1, 0, 0), "leaf"), hiddenCopy(edition(2, 0, 0), "root"), aCopy(edition(3, 0, 0), ""))}
	checkDone(t, s, "hide oak 1.0.0 2", "", "elm@1 1.0.0=x/oak@2 1.0.0=leaf* 2.0.0=root* 3.0.0=")
	checkDone(t, s, "hide oak 2.0.0 2", "", "elm@1 1.0.0=x/oak@2 1.0.0=leaf 2.0.0=root* 3.0.0=")
	checkDone(t, s, "hide oak 3.0.0 2", "", "elm@1 1.0.0=x/oak@2 1.0.0=leaf 2.0.0=root* 3.0.0=*")
	checkDone(t, s, "show oak 1.0.0 2", "", "elm@1 1.0.0=x/oak@2 1.0.0=leaf 2.0.0=root* 3.0.0=")
	checkDone(t, s, "show oak 2.0.0 2", "", "elm@1 1.0.0=x/oak@2 1.0.0=leaf 2.0.0=root 3.0.0=")
	checkDone(t, s, "hide elm 1.0.0 1", "", "elm@1 1.0.0=x*/oak@2 1.0.0=leaf 2.0.0=root* 3.0.0=")
	for _, kind := range []string{"hide ", "show "} {
		checkRefused(t, s, deedOf(t, kind+"fir 1.0.0 2"), impl.RpNone)
		checkRefused(t, nil, deedOf(t, kind+"oak 1.0.0 2"), impl.RpNone)
		checkRefused(t, s, deedOf(t, kind+"oak 1.0.1 2"), impl.RpNone)
		checkRefused(t, s, deedOf(t, kind+"elm 2.0.0 1"), impl.RpNone)
		checkRefused(t, s, deedOf(t, kind+"oak 1.0.0 1"), impl.RpOwner)
		checkRefused(t, s, deedOf(t, kind+"oak 2.0.0 3"), impl.RpOwner)
		// RpOwner is named ahead of the RpNone of an edition.
		checkRefused(t, s, deedOf(t, kind+"oak 1.0.1 1"), impl.RpOwner)
		checkRefused(t, s, deedOf(t, kind+"elm 2.0.0 0"), impl.RpOwner)
	}
}

func TestFetchAsTold(t *testing.T) {
	s := []impl.Work{named("elm", 1, aCopy(edition(1, 0, 0), "x")), named("oak", 2, aCopy(edition(1, 0, 0), "leaf"), hiddenCopy(edition(2, 0, 0), "root"), aCopy(edition(3, 0, 0), ""), hiddenCopy(edition(4, 0, 0), ""))}
	shown := "elm@1 1.0.0=x/oak@2 1.0.0=leaf 2.0.0=root* 3.0.0= 4.0.0=*"
	checkDone(t, s, "fetch oak 1.0.0", "leaf", shown)
	checkDone(t, s, "fetch oak 3.0.0", "", shown)
	checkDone(t, s, "fetch elm 1.0.0", "x", shown)
	checkRefused(t, s, deedOf(t, "fetch oak 2.0.0"), impl.RpHidden)
	checkRefused(t, s, deedOf(t, "fetch oak 4.0.0"), impl.RpHidden)
	// It is that very edition, not one that Fits.
	for _, line := range []string{"fetch oak 0.0.0", "fetch oak 1.0.1", "fetch oak 2.0.1", "fetch oak 99.99.99", "fetch elm 2.0.0", "fetch fir 1.0.0", "fetch ok 1.0.0"} {
		checkRefused(t, s, deedOf(t, line), impl.RpNone)
	}
	checkRefused(t, nil, deedOf(t, "fetch oak 1.0.0"), impl.RpNone)
	checkRefused(t, []impl.Work{named("oak", 0)}, deedOf(t, "fetch oak 0.0.0"), impl.RpNone)
}

func TestGiveAsTold(t *testing.T) {
	s := []impl.Work{named("elm", 1), named("oak", 2, aCopy(edition(1, 0, 0), "leaf"), hiddenCopy(edition(2, 0, 0), "root"))}
	for owner := range int64(4) {
		digit := strconv.Itoa(int(owner))
		checkDone(t, s, "give oak 2 "+digit, "", "elm@1/oak@"+digit+" 1.0.0=leaf 2.0.0=root*")
		checkDone(t, s, "give elm 1 "+digit, "", "elm@"+digit+"/oak@2 1.0.0=leaf 2.0.0=root*")
		checkRefused(t, s, deedOf(t, "give fir 1 "+digit), impl.RpNone)
		for _, who := range []string{"0", "1", "3"} {
			checkRefused(t, s, deedOf(t, "give oak "+who+" "+digit), impl.RpOwner)
		}
	}
	checkRefused(t, nil, deedOf(t, "give oak 2 1"), impl.RpNone)
	// Given, it is the new one's and no longer the old one's.
	given, _ := impl.Does(s, deedOf(t, "give oak 2 0"))
	checkRefused(t, given, deedOf(t, "hide oak 1.0.0 2"), impl.RpOwner)
	checkDone(t, given, "hide oak 1.0.0 0", "", "elm@1/oak@0 1.0.0=leaf* 2.0.0=root*")
}

// An owner above 3 is RpBad ahead of all that the kind names.
func TestGiveToAnOwnerAboveThree(t *testing.T) {
	for _, major := range []string{"4", "5", "10", "99"} {
		for _, line := range []string{"give oak 2 ", "give oak 1 ", "give elm 0 ", "give fir 2 ", "give yew 1 "} {
			for _, s := range [][]impl.Work{nil, threeWorks(), shelfOfLength(5)} {
				checkRefused(t, s, deedOf(t, line+major), impl.RpBad)
			}
		}
	}
}

// What is not DeedOk is RpBad, whatever else applies.
func TestDoesOfWhatIsNoDeed(t *testing.T) {
	deeds := []impl.Deed{{}, {Kind: 7, Name: "oak"}, {Kind: -1, Name: "oak"}, {Kind: math.MinInt64}, {Kind: math.MaxInt64, Name: "oak"}}
	for kind := int64(1); kind <= 6; kind++ {
		for _, name := range []string{"oak", "fir", "elm"} {
			right := aDeedOf(kind)
			right.Name = name
			for _, spoil := range []func(*impl.Deed){
				func(d *impl.Deed) { d.Name = "" },
				func(d *impl.Deed) { d.Name += "-" },
				func(d *impl.Deed) { d.Name = "Oak" },
				func(d *impl.Deed) { d.Who = 4 },
				func(d *impl.Deed) { d.Who = -1 },
				func(d *impl.Deed) { d.Page = "Leaf" },
				func(d *impl.Deed) { d.Page = "abcdefghijklm" },
				func(d *impl.Deed) { d.Edition.Minor = 100 },
				func(d *impl.Deed) { d.Edition.Patch = -1 },
				func(d *impl.Deed) { d.Edition.Major = 100 },
			} {
				d := right
				spoil(&d)
				deeds = append(deeds, d)
			}
		}
	}
	// Of these something is told that is not of their kind.
	deeds = append(deeds, impl.Deed{Kind: 1, Name: "fir", Page: "leaf"}, impl.Deed{Kind: 1, Name: "fir", Edition: edition(1, 0, 0)}, impl.Deed{Kind: 3, Name: "oak", Edition: edition(0, 5, 0), Page: "root", Who: 2},
		impl.Deed{Kind: 5, Name: "oak", Edition: edition(0, 5, 0), Who: 2}, impl.Deed{Kind: 6, Name: "oak", Edition: edition(1, 0, 1), Who: 2}, impl.Deed{Kind: 6, Name: "oak", Edition: edition(1, 1, 0), Who: 2})
	for _, d := range deeds {
		for _, s := range [][]impl.Work{nil, threeWorks(), shelfOfLength(5), {named("oak", 2, workOfLength(8).Copies...)}} {
			checkRefused(t, s, d, impl.RpBad)
		}
	}
}

func TestDoesOfWhatIsNoShelf(t *testing.T) {
	for _, s := range wrongShelves() {
		deeds := []impl.Deed{{}, deedOf(t, "claim fir 1"), deedOf(t, "claim oak 2"), deedOf(t, "put oak 9.0.0 new 2"), deedOf(t, "hide oak 0.5.0 2"), deedOf(t, "show oak 0.7.1 2"),
			deedOf(t, "fetch oak 0.5.0"), deedOf(t, "give oak 2 1"), deedOf(t, "give oak 2 4"), {Kind: 2, Name: "oak", Page: "New", Who: 2}}
		for _, d := range deeds {
			if got, reply := impl.Does(s, d); len(got) != 0 || reply != (impl.Reply{Code: impl.RpBad}) {
				t.Errorf("Does(%v, %v) is %v, %v", s, d, got, reply)
			}
		}
	}
}

func TestDoesOfManyDeeds(t *testing.T) {
	deeds := shelfDeeds()
	codes := map[int64]map[int64]int{}
	for i, s := range someShelves() {
		for k, d := range deeds {
			// The first shelves meet each deed, the others some.
			if i > 12 && (i+k)%17 != 0 {
				continue
			}
			checkDoes(t, s, d)
			_, reply := impl.Does(s, d)
			if codes[d.Kind] == nil {
				codes[d.Kind] = map[int64]int{}
			}
			codes[d.Kind][reply.Code]++
		}
	}
	for kind, want := range map[int64][]int64{1: {0, 2, 4, 7}, 2: {0, 1, 2, 3, 4, 7}, 3: {0, 1, 3, 7}, 4: {0, 1, 3, 7}, 5: {0, 1, 5, 7}, 6: {0, 1, 3, 7}, -1: {7}, 0: {7}, 7: {7}, 8: {7}} {
		for code := range int64(8) {
			if (codes[kind][code] > 0) != slices.Contains(want, code) {
				t.Errorf("of kind %d code %d came %d times", kind, code, codes[kind][code])
			}
		}
	}
}

func TestShowShelfAsTold(t *testing.T) {
	for _, c := range []struct {
		s    []impl.Work
		want string
	}{
		{nil, ""}, {[]impl.Work{}, ""},
		{[]impl.Work{named("oak", 0)}, "oak@0"}, {[]impl.Work{named("a-b", 3)}, "a-b@3"},
		{[]impl.Work{named("elm", 1), named("oak", 2)}, "elm@1/oak@2"},
		{[]impl.Work{named("a", 0), named("b", 1), named("c", 2), named("d", 3), named("e", 0)}, "a@0/b@1/c@2/d@3/e@0"},
		{[]impl.Work{named("oak", 1, aCopy(edition(1, 0, 0), "leaf"))}, "oak@1 1.0.0=leaf"},
		{[]impl.Work{named("oak", 1, hiddenCopy(edition(1, 0, 0), "leaf"))}, "oak@1 1.0.0=leaf*"},
		{[]impl.Work{named("oak", 1, aCopy(edition(1, 0, 0), ""))}, "oak@1 1.0.0="},
		{[]impl.Work{named("oak", 1, hiddenCopy(edition(1, 0, 0), ""))}, "oak@1 1.0.0=*"},
		{[]impl.Work{fourCopies()}, "oak@2 0.5.0=root 0.7.1=bark* 1.0.0= 1.0.2=leaf*"},
		{[]impl.Work{named("elm", 0), fourCopies(), named("yew", 1, aCopy(edition(99, 10, 9), "0123456789ab"))}, "elm@0/oak@2 0.5.0=root 0.7.1=bark* 1.0.0= 1.0.2=leaf*/yew@1 99.10.9=0123456789ab"},
		{[]impl.Work{named("elm", 3, hiddenCopy(edition(0, 0, 0), "7")), named("oak", 0)}, "elm@3 0.0.0=7*/oak@0"},
	} {
		if got := impl.ShowShelf(c.s); got != c.want {
			t.Errorf("ShowShelf(%v) is %q, not %q", c.s, got, c.want)
		}
		checkShowShelf(t, c.s)
	}
	for _, s := range someShelves() {
		checkShowShelf(t, s)
	}
}

func TestShowShelfOfWhatIsNone(t *testing.T) {
	for _, s := range wrongShelves() {
		if got := impl.ShowShelf(s); got != "" {
			t.Errorf("ShowShelf(%v) is %q", s, got)
		}
	}
}

// checkEditionsStay asks that what was there is there with its page, and that
// the shelf is right.
func checkEditionsStay(t *testing.T, before, after []impl.Work, d impl.Deed) {
	t.Helper()
	if !impl.ShelfOk(after) {
		t.Fatalf("Does(%v, %v) is %v", before, d, after)
	}
	for _, w := range before {
		x, is := impl.WorkIn(after, w.Name)
		if !is {
			t.Fatalf("Does(%v, %v) has no %q: %v", before, d, w.Name, after)
		}
		for _, c := range w.Copies {
			if now, is := impl.CopyIn(x, c.Edition); !is || now.Page != c.Page || now.Edition != c.Edition {
				t.Fatalf("Does(%v, %v) has %v for %v: %v", before, d, now, c, after)
			}
		}
	}
}

// Promise 5, of one deed: whatever is done to a right shelf.
func TestAnEditionStays(t *testing.T) {
	deeds := shelfDeeds()
	for i, s := range someShelves() {
		for k, d := range deeds {
			if i > 12 && (i+k)%17 != 0 {
				continue
			}
			before := keepShelf(s)
			after, _ := impl.Does(s, d)
			checkEditionsStay(t, before, after, d)
		}
	}
}

// Promise 5, of many deeds: the page that an edition was put with is the one
// that is fetched, however many deeds there are between.
func TestAnEditionStaysForGood(t *testing.T) {
	names := []string{"a", "a-b", "aa", "elm", "oak", "yew", "Oak"}
	codes := map[int64]int{}
	for seed := range int64(30) {
		r := rand.New(rand.NewSource(seed))
		pages := map[string]string{}
		var s []impl.Work
		for range 400 {
			e := edition(r.Int63n(2), r.Int63n(3), r.Int63n(3))
			d := impl.Deed{Kind: 1 + r.Int63n(6), Name: names[r.Intn(len(names))], Who: r.Int63n(2)}
			switch d.Kind {
			case 2:
				d.Edition, d.Page = e, "p"+strconv.Itoa(r.Intn(1000))
			case 3, 4:
				d.Edition = e
			case 5:
				d.Edition, d.Who = e, 0
			case 6:
				d.Edition.Major = []int64{0, 0, 0, 1, 1, 1, 4}[r.Intn(7)]
			}
			checkDoes(t, s, d)
			after, reply := impl.Does(s, d)
			checkEditionsStay(t, s, after, d)
			codes[reply.Code]++
			key := d.Name + " " + wantShown(d.Edition)
			if d.Kind == 2 && reply.Code == impl.RpDone {
				if page, is := pages[key]; is {
					t.Fatalf("%s of page %q is put once more: %v", key, page, d)
				}
				pages[key] = d.Page
			}
			if page, is := pages[key]; d.Kind == 5 && reply.Code == impl.RpDone && (!is || reply.Page != page) {
				t.Fatalf("%s has page %q, not %q", key, reply.Page, page)
			}
			s = after
		}
		there := 0
		for _, w := range s {
			there += len(w.Copies)
		}
		if there != len(pages) || there == 0 {
			t.Fatalf("%d editions are put, and %d there", len(pages), there)
		}
	}
	for _, code := range []int64{0, 1, 2, 3, 4, 5, 7} {
		if codes[code] == 0 {
			t.Errorf("no deed was of code %d", code)
		}
	}
}

// Promise 21, of this chapter: each one answers at every shelf, deed and text,
// as the document tells.
func TestShelfAnswersAtEveryArgument(t *testing.T) {
	deeds := deedsOf([]string{"", "oak", "\xff"}, []impl.Edition{edition(0, 5, 0), edition(math.MinInt64, 0, 0), edition(math.MaxInt64, 0, 0), edition(2, 0, 0)}, []string{"", "A"}, []int64{math.MinInt64, 2, math.MaxInt64})
	for _, s := range append(wrongShelves(), someShelves()...) {
		checkShelfOk(t, s, wantShelf(s))
		checkShowShelf(t, s)
		checkWorkIn(t, s, "oak")
		for i := 0; i < len(deeds); i += 1 + len(s)/100 {
			checkDoes(t, s, deeds[i])
		}
	}
	for _, text := range someTexts() {
		checkWorkIn(t, threeWorks(), text)
		s := []impl.Work{named("elm", 0, aCopy(edition(1, 0, 0), text)), named(text, 1)}
		checkShelfOk(t, s, wantShelf(s))
		checkShowShelf(t, s)
		checkDoes(t, []impl.Work{named("oak", 2)}, impl.Deed{Kind: 1, Name: text})
		checkDoes(t, []impl.Work{named("oak", 2)}, impl.Deed{Kind: 2, Name: "oak", Page: text, Who: 2})
	}
}

// A shelfView is a shelf whose texts and lists the test can change, with
// spare room behind each.
type shelfView struct {
	shelf []impl.Work
	rooms [][]byte
	lists [][]impl.Copy
	works []impl.Work
}

func viewedShelf(s []impl.Work) shelfView {
	var v shelfView
	for _, w := range s {
		x, room, copies := viewedWork(w)
		v.works = append(v.works, x)
		v.rooms = append(v.rooms, room)
		v.lists = append(v.lists, copies)
	}
	v.works = append(v.works, named("spare", 1), named("room", 2))
	v.shelf = v.works[:len(s)]
	return v
}

// shown is all that is in it, its spare room too, in memory of its own.
func (v shelfView) shown() string {
	text := ""
	for _, w := range v.works {
		text += w.Name + "@" + strconv.FormatInt(w.Owner, 10) + ":" + strconv.Itoa(len(w.Copies)) + ";"
	}
	for i, copies := range v.lists {
		text += string(v.rooms[i]) + ";"
		for _, c := range copies {
			text += wantShown(c.Edition) + "=" + c.Page + strconv.FormatBool(c.Hidden) + ";"
		}
	}
	return text
}

func (v shelfView) spoil() {
	clear(v.works)
	for i := range v.lists {
		clear(v.lists[i])
		for k := range v.rooms[i] {
			v.rooms[i][k] = '#'
		}
	}
}

// memoryLines is a deed of each kind, done and refused.
func memoryLines() []string {
	return []string{
		"claim ash 1", "claim fir 3", "claim zelkova 0", "claim oak 2", "put elm 1.0.0 new 0", "put oak 0.0.0 new 2", "put oak 0.9.0 new 2", "put oak 9.0.0 new 2", "put oak 0.5.0 new 2", "put oak 9.0.0 new 1", "put yew 9.0.0 new 1", "put fir 1.0.0 new 1",
		"hide oak 0.5.0 2", "hide oak 0.7.1 2", "hide oak 9.0.0 2", "show oak 0.7.1 2", "show oak 0.5.0 1", "fetch oak 0.5.0", "fetch oak 0.7.1", "fetch oak 1.0.0", "fetch fir 1.0.0", "give oak 2 3", "give oak 1 3", "give oak 2 4", "give fir 2 3",
	}
}

func memoryShelves() [][]impl.Work {
	full := append(threeWorks(), named("yewa", 1, fourCopies().Copies...), named("yewb", 2))
	wrong, long := threeWorks(), threeWorks()
	wrong[2].Owner = 4
	long[1].Copies = append(workOfLength(9).Copies, aCopy(edition(100, -1, 0), "Not a page"))
	falling := []impl.Work{named("yew", 1), fourCopies(), named("elm", 0)}
	many := append(shelfOfLength(6), fourCopies())
	return [][]impl.Work{threeWorks(), full, {named("oak", 2)}, nil, wrong, long, falling, many}
}

// viewedDeed is d with its texts in bytes that the test can change.
func viewedDeed(d impl.Deed) (impl.Deed, []byte) {
	room := []byte(d.Name + d.Page + "SPARE_ROOM")
	d.Name, d.Page = unsafe.String(&room[0], len(d.Name)), unsafe.String(&room[len(d.Name)], len(d.Page))
	return d, room
}

// Promise 21, of this chapter: arguments stay, their spare room too, and an
// answer is the same when they are changed behind it.
func TestShelfKeepsItsArguments(t *testing.T) {
	for _, s := range memoryShelves() {
		for _, line := range memoryLines() {
			want, wantReply := wantDoes(keepShelf(s), deedOf(t, line))
			want = keepShelf(want)
			wantOak, wantIs := wantWorkIn(keepShelf(s), "oak")
			v := viewedShelf(s)
			d, room := viewedDeed(deedOf(t, line))
			before, roomBefore := v.shown(), string(room)
			got, reply := impl.Does(v.shelf, d)
			impl.ShelfOk(v.shelf)
			oak, is := impl.WorkIn(v.shelf, "oak")
			text := impl.ShowShelf(v.shelf)
			if v.shown() != before || string(room) != roomBefore {
				t.Fatalf("%q writes into its argument: %s, not %s; %s", line, v.shown(), before, room)
			}
			v.spoil()
			for i := range room {
				room[i] = '#'
			}
			if !sameShelf(got, want) || reply != wantReply {
				t.Errorf("%q shares the memory of an argument: %v, %v, not %v, %v", line, got, reply, want, wantReply)
			}
			if !sameWork(oak, wantOak) || is != wantIs || text != wantShownShelf(s) {
				t.Errorf("WorkIn or ShowShelf shares the memory of its argument: %v, %q", oak, text)
			}
		}
	}
}

// Promise 21, of this chapter: what is changed in an answer, or behind it in
// its spare room, is changed neither in the argument nor in the next answer.
func TestShelfAnswersAnewEachTime(t *testing.T) {
	for _, s := range memoryShelves() {
		for _, line := range memoryLines() {
			v := viewedShelf(s)
			before := v.shown()
			first, _ := impl.Does(v.shelf, deedOf(t, line))
			want := keepShelf(first)
			second, _ := impl.Does(v.shelf, deedOf(t, line))
			oak, _ := impl.WorkIn(v.shelf, "oak")
			wantOak := keepWork(oak)
			otherOak, _ := impl.WorkIn(v.shelf, "oak")
			for _, w := range first {
				clear(w.Copies[:cap(w.Copies)])
			}
			clear(first[:cap(first)])
			clear(oak.Copies[:cap(oak.Copies)])
			if v.shown() != before {
				t.Fatalf("%q: a change of an answer changes the argument: %s, not %s", line, v.shown(), before)
			}
			if third, _ := impl.Does(v.shelf, deedOf(t, line)); !sameShelf(second, want) || !sameShelf(third, want) {
				t.Fatalf("%q: a change of one answer changes another: %v, %v", line, second, third)
			}
			if !sameWork(otherOak, wantOak) {
				t.Fatalf("WorkIn: a change of one answer changes another: %v", otherOak)
			}
		}
	}
}

// Promise 21, of this chapter: no two lists of one answer share memory, not
// even where two lists of the argument do.
func TestShelfListsShareNoMemory(t *testing.T) {
	copies := workOfLength(6).Copies
	shared := []impl.Work{named("elm", 0, copies[:3]...), named("oak", 2, copies[:5]...), named("yew", 1, copies...)}
	for _, s := range append(memoryShelves(), shared) {
		for _, line := range memoryLines() {
			answer, _ := impl.Does(s, deedOf(t, line))
			want := keepShelf(answer)
			for i := range answer {
				list := answer[i].Copies[:cap(answer[i].Copies)]
				for k := range list {
					list[k] = aCopy(edition(8, 8, 8), "changed")
				}
				for k := range answer {
					if k > i && !sameWork(answer[k], want[k]) {
						t.Fatalf("%q: a change of the Copies of %q changes those of %q", line, want[i].Name, want[k].Name)
					}
				}
				want[i] = keepWork(answer[i])
				if !sameShelf(answer, want) {
					t.Fatalf("%q: a change of the Copies of %q changes another list: %v", line, want[i].Name, answer)
				}
			}
		}
	}
}

func TestShelfAnswerMayBeTheNextArgument(t *testing.T) {
	one, _ := impl.Does(threeWorks(), deedOf(t, "put oak 5.0.0 five 2"))
	shown := impl.ShowShelf(one)
	for _, line := range memoryLines() {
		checkDoes(t, one, deedOf(t, line))
		if impl.ShowShelf(one) != shown {
			t.Fatalf("%q changes its argument: %s", line, impl.ShowShelf(one))
		}
	}
}
