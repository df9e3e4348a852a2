package tests

import (
	"math"
	"math/rand"
	"slices"
	"strconv"
	"strings"
	"testing"
	"unsafe"

	"loop.example/g00572/impl"
)

func idle(reign int64) impl.Entry { return impl.Entry{Reign: reign} }

func entry(t *testing.T, reign, client, seq int64, line string) impl.Entry {
	t.Helper()
	return impl.Entry{Reign: reign, Order: order(t, client, seq, line)}
}

// entryOf has a Deed of that kind, of which nothing that is told is zero.
func entryOf(kind int64) impl.Entry {
	return impl.Entry{Reign: 2, Order: impl.Order{Client: 1, Seq: 7, Deed: aDeedOf(kind)}}
}

// numbersIn and textsIn are all fields of an Entry, its Reign ahead.
func numbersIn(e *impl.Entry) []*int64 {
	d := &e.Order.Deed
	return []*int64{&e.Reign, &e.Order.Client, &e.Order.Seq, &d.Kind, &d.Edition.Major, &d.Edition.Minor, &d.Edition.Patch, &d.Who}
}

func textsIn(e *impl.Entry) []*string { return []*string{&e.Order.Deed.Name, &e.Order.Deed.Page} }

// The document's words once more, by another way than the program's: two
// Entries are the same when all that is in them, written out, is.
func wantSameEntry(a, b impl.Entry) bool { return entryText(a) == entryText(b) }

func entryText(e impl.Entry) string {
	text := ""
	for _, n := range numbersIn(&e) {
		text += strconv.FormatInt(*n, 10) + ","
	}
	for _, s := range textsIn(&e) {
		text += strconv.Quote(*s) + ","
	}
	return text
}

func orderIsZero(o impl.Order) bool {
	return entryText(impl.Entry{Order: o}) == entryText(impl.Entry{})
}

func wantEntry(e impl.Entry) bool {
	return e.Reign > 0 && e.Reign < 1001 && (orderIsZero(e.Order) || wantOrder(e.Order))
}

func wantObeyed(b impl.Book, e impl.Entry) (impl.Book, impl.Reply) {
	switch {
	case !wantBook(b):
		return impl.Book{}, impl.Reply{Code: 7}
	case !wantEntry(e):
		return b, impl.Reply{Code: 7}
	case orderIsZero(e.Order):
		return b, impl.Reply{Code: 0}
	}
	return wantOrdered(b, e.Order)
}

func wantObeyedAll(b impl.Book, entries []impl.Entry) impl.Book {
	if !wantBook(b) || len(entries) > 400 {
		return impl.Book{}
	}
	for _, e := range entries {
		b, _ = wantObeyed(b, e)
	}
	return b
}

func checkEntryOk(t *testing.T, e impl.Entry, want bool) {
	t.Helper()
	if wantEntry(e) != want {
		t.Fatalf("the test takes %v otherwise", e)
	}
	if impl.EntryOk(e) != want {
		t.Errorf("EntryOk(%v) is %v", e, !want)
	}
}

// checkSameEntry asks both ways.
func checkSameEntry(t *testing.T, a, b impl.Entry, want bool) {
	t.Helper()
	if wantSameEntry(a, b) != want {
		t.Fatalf("the test takes %v and %v otherwise", a, b)
	}
	if impl.SameEntry(a, b) != want || impl.SameEntry(b, a) != want {
		t.Errorf("SameEntry(%v, %v) is %v, or the other way round", a, b, !want)
	}
}

func checkObeyed(t *testing.T, b impl.Book, e impl.Entry) {
	t.Helper()
	want, wantReply := wantObeyed(b, e)
	if got, reply := impl.Obeyed(b, e); !sameBook(got, want) || reply != wantReply {
		t.Fatalf("Obeyed(%v, %v) is %v, %v, not %v, %v", b, e, got, reply, want, wantReply)
	}
}

func checkObeyedAll(t *testing.T, b impl.Book, entries []impl.Entry) {
	t.Helper()
	want := wantObeyedAll(b, entries)
	if got := impl.ObeyedAll(b, entries); !sameBook(got, want) {
		t.Fatalf("ObeyedAll(%v, %v) is %v, not %v", b, entries, got, want)
	}
}

// checkIdle asks for that code alone, and for the Book as it was.
func checkIdle(t *testing.T, b impl.Book, e impl.Entry, code int64) {
	t.Helper()
	if got, reply := impl.Obeyed(b, e); reply != (impl.Reply{Code: code}) || !sameBook(got, b) {
		t.Errorf("Obeyed(%v, %v) is %v, %v, not as it was and of code %d", b, e, got, reply, code)
	}
	if got := impl.ObeyedAll(b, []impl.Entry{e}); !sameBook(got, b) {
		t.Errorf("ObeyedAll(%v, %v) is %v, not as it was", b, e, got)
	}
	checkObeyed(t, b, e)
}

func wrongReigns() []int64 {
	return []int64{math.MinInt64, -1000, -1, 0, 1001, 1002, 1<<32 + 1, math.MaxInt64}
}

// almostZero is the zero Order but for one field, each field in its turn.
func almostZero() []impl.Order {
	var orders []impl.Order
	for at := range numbersIn(&impl.Entry{}) {
		for _, n := range []int64{math.MinInt64, -1, 1, 2, 3, 1000, 1 << 32, math.MaxInt64} {
			var e impl.Entry
			*numbersIn(&e)[at] = n
			orders = append(orders, e.Order)
		}
	}
	for at := range textsIn(&impl.Entry{}) {
		for _, s := range []string{"a", "oak", "leaf", "Not right", "\x00", "\xff", " "} {
			var e impl.Entry
			*textsIn(&e)[at] = s
			orders = append(orders, e.Order)
		}
	}
	// To change the Reign leaves the Order zero.
	return slices.DeleteFunc(orders, orderIsZero)
}

// almostRight is a right Entry of each kind but for one field, each field in
// its turn, the Reign among them.
func almostRight() []impl.Entry {
	var entries []impl.Entry
	wrongNumbers := [][]int64{wrongReigns(), {-1, 4, 1 << 32}, {-1, 0, 1001}, {-1, 0, 7}, {-1, 100}, {-1, 100}, {-1, 100}, {-1, 4}}
	wrongTexts := [][]string{{"", "Oak", "abcdefghi", "oak-"}, {"Leaf", "abcdefghijklm", "-"}}
	for kind := int64(1); kind <= 6; kind++ {
		for at, numbers := range wrongNumbers {
			for _, n := range numbers {
				e := entryOf(kind)
				*numbersIn(&e)[at] = n
				entries = append(entries, e)
			}
		}
		for at, texts := range wrongTexts {
			for _, s := range texts {
				e := entryOf(kind)
				*textsIn(&e)[at] = s
				entries = append(entries, e)
			}
		}
	}
	return entries
}

// wrongEntries is Entries with each thing that may be wrong.
func wrongEntries(t *testing.T) []impl.Entry {
	entries := append(almostRight(), impl.Entry{})
	for _, reign := range wrongReigns() {
		entries = append(entries, idle(reign), entry(t, reign, 1, 9, "claim fir 1"), entry(t, reign, 1, 5, "claim fir 1"), entry(t, reign, 2, 1, "fetch oak 0.5.0"))
	}
	// The zero Order is no order, but right in an Entry.
	orders := slices.DeleteFunc(append(almostZero(), wrongOrders(t)...), orderIsZero)
	for i, o := range orders {
		entries = append(entries, impl.Entry{Reign: int64(1 + i*37%1000), Order: o})
	}
	return entries
}

// manyEntries is n of them: right ones, some of which come twice, and among
// them such with the zero Order and such that are not right.
func manyEntries(t *testing.T, n int) []impl.Entry {
	var entries []impl.Entry
	for i, o := range manyOrders(t, n) {
		e := impl.Entry{Reign: int64(1 + i*1000/n), Order: o}
		switch {
		case i%11 == 5:
			e.Order = impl.Order{}
		case i%13 == 7:
			e.Reign = 1001
		case i%17 == 9:
			e.Order.Client = 4
		}
		entries = append(entries, e)
	}
	return entries
}

func TestEntryNumbersAsTold(t *testing.T) {
	if impl.MaxReign != 1000 {
		t.Error(impl.MaxReign)
	}
}

func TestEntryOkAtEachReign(t *testing.T) {
	for _, reign := range append(wrongReigns(), 1, 2, 500, 999, 1000) {
		right := reign >= 1 && reign <= 1000
		checkEntryOk(t, idle(reign), right)
		for kind := int64(1); kind <= 6; kind++ {
			e := entryOf(kind)
			e.Reign = reign
			checkEntryOk(t, e, right)
		}
		checkEntryOk(t, impl.Entry{Reign: reign, Order: impl.Order{Client: 1, Seq: 1}}, false)
	}
}

func TestEntryOkOfOrders(t *testing.T) {
	for _, reign := range []int64{1, 2, 1000} {
		for _, o := range almostZero() {
			checkEntryOk(t, impl.Entry{Reign: reign, Order: o}, false)
		}
		for _, o := range wrongOrders(t) {
			checkEntryOk(t, impl.Entry{Reign: reign, Order: o}, orderIsZero(o))
		}
		for client := range int64(4) {
			for _, seq := range []int64{1, 500, 1000} {
				checkEntryOk(t, entry(t, reign, client, seq, "claim oak 0"), true)
				// A right deed may be one that no shelf does.
				checkEntryOk(t, entry(t, reign, client, seq, "give oak 1 99"), true)
			}
		}
	}
	for _, e := range almostRight() {
		checkEntryOk(t, e, false)
	}
	for _, d := range shelfDeeds() {
		checkEntryOk(t, impl.Entry{Reign: 1000, Order: impl.Order{Client: 3, Seq: 1000, Deed: d}}, wantDeed(d))
		checkEntryOk(t, impl.Entry{Reign: 1, Order: impl.Order{Deed: d}}, d == impl.Deed{})
	}
}

// Two that are the same are so wherever their texts stand.
func TestSameEntryOfTheSame(t *testing.T) {
	entries := append(wrongEntries(t), manyEntries(t, 50)...)
	for kind := int64(1); kind <= 6; kind++ {
		entries = append(entries, entryOf(kind))
	}
	for _, e := range append(entries, idle(1), idle(1000)) {
		other := e
		for _, s := range textsIn(&other) {
			*s = strings.Clone(*s)
		}
		checkSameEntry(t, e, e, true)
		checkSameEntry(t, e, other, true)
	}
}

// Each field is changed alone: of right Entries, of idle and of wrong ones.
func TestSameEntryOfOneFieldChanged(t *testing.T) {
	entries := []impl.Entry{{}, idle(1), idle(1000), {Reign: -1, Order: impl.Order{Client: 9, Deed: impl.Deed{Kind: 9, Name: "No", Page: "No page"}}}}
	for kind := int64(1); kind <= 6; kind++ {
		entries = append(entries, entryOf(kind))
	}
	for _, e := range entries {
		for at := range numbersIn(&e) {
			for _, more := range []int64{math.MinInt64, -1, 1, 2, 1 << 8, 1 << 32} {
				other := e
				*numbersIn(&other)[at] += more
				checkSameEntry(t, e, other, false)
			}
		}
		for at, s := range textsIn(&e) {
			for _, text := range []string{*s + "a", "a" + *s, *s + "\x00", "OAK", "Leaf", "oaf", "lead", "o", "l", "ELM"} {
				other := e
				*textsIn(&other)[at] = text
				checkSameEntry(t, e, other, false)
			}
		}
	}
	// The same numbers and texts at other places.
	swapped := entryOf(2)
	swapped.Order.Deed.Name, swapped.Order.Deed.Page = "leaf", "oak"
	checkSameEntry(t, entryOf(2), swapped, false)
	for at := range numbersIn(&impl.Entry{}) {
		var a, b impl.Entry
		*numbersIn(&a)[at], *numbersIn(&b)[(at+1)%8] = 1, 1
		checkSameEntry(t, a, b, false)
	}
}

func TestSameEntryTwoByTwo(t *testing.T) {
	entries := append(manyEntries(t, 40), wrongEntries(t)...)
	same := 0
	for i, a := range entries {
		for _, b := range entries[:i] {
			checkSameEntry(t, a, b, wantSameEntry(a, b))
			if impl.SameEntry(a, b) {
				same++
			}
		}
	}
	if same == 0 || same == len(entries)*(len(entries)-1)/2 {
		t.Errorf("%d of all pairs are the same", same)
	}
}

func TestObeyedAsTold(t *testing.T) {
	put := entry(t, 3, 2, 4, "put oak 9.0.0 new 2")
	b, reply := impl.Obeyed(aBook(), put)
	shelf, _ := impl.Does(aBook().Shelf, put.Order.Deed)
	want := []impl.Last{aBook().Lasts[0], lastWith(2, 4, impl.RpDone, ""), aBook().Lasts[1]}
	if reply != (impl.Reply{}) || !sameShelf(b.Shelf, shelf) || !slices.Equal(b.Lasts, want) {
		t.Errorf("it is %v, %v", b, reply)
	}
	again, reply := impl.Obeyed(b, entry(t, 4, 2, 5, "fetch oak 9.0.0"))
	want[1] = lastWith(2, 5, impl.RpDone, "new")
	if reply != (impl.Reply{Page: "new"}) || !sameShelf(again.Shelf, shelf) || !slices.Equal(again.Lasts, want) {
		t.Errorf("it is %v, %v", again, reply)
	}
	// The order counts, not the Reign that it comes in.
	if got, reply := impl.Obeyed(again, entry(t, 1, 2, 5, "fetch oak 9.0.0")); reply != (impl.Reply{Page: "new"}) || !sameBook(got, again) {
		t.Errorf("it is %v, %v", got, reply)
	}
	checkIdle(t, again, put, impl.RpOld)
}

// Of an Order the Book and the Reply are those of Ordered, whatever the Reign,
// and whatever the shelf says of it.
func TestObeyedOfAnOrderIsOrdered(t *testing.T) {
	codes := map[int64]int{}
	for i, b := range append(someBooks(), impl.Book{Shelf: shelfOfLength(5), Lasts: lastsOf(0)}) {
		for k, line := range append(bookLines(), "claim a 1", "claim c 3") {
			for _, seq := range []int64{1, 5, 7, 8, 1000} {
				o := order(t, int64((i+k)%4), seq, line)
				want, wantReply := impl.Ordered(b, o)
				for _, reign := range []int64{1, 2, 1000} {
					e := impl.Entry{Reign: reign, Order: o}
					if got, reply := impl.Obeyed(b, e); !sameBook(got, want) || reply != wantReply {
						t.Errorf("Obeyed(%v, %v) is %v, %v, not %v, %v", b, e, got, reply, want, wantReply)
					}
					checkObeyed(t, b, e)
				}
				codes[wantReply.Code]++
			}
		}
	}
	for code := range int64(8) {
		if codes[code] == 0 {
			t.Errorf("no order was of code %d", code)
		}
	}
}

func TestObeyedOfTheZeroOrder(t *testing.T) {
	for _, b := range someBooks() {
		for _, reign := range []int64{1, 2, 500, 1000} {
			checkIdle(t, b, idle(reign), impl.RpDone)
		}
	}
}

// What is not right is not done even where its Order is, and leaves no Last.
func TestObeyedOfWhatIsNoEntry(t *testing.T) {
	entries := wrongEntries(t)
	for i, b := range someBooks() {
		for k, e := range entries {
			if i < 4 || (i+k)%5 == 0 {
				checkIdle(t, b, e, impl.RpBad)
			}
		}
	}
}

func TestObeyedOfWhatIsNoBook(t *testing.T) {
	entries := []impl.Entry{{}, idle(1), idle(1001), entry(t, 1, 1, 9, "claim fir 1"), entry(t, 1000, 1, 5, "claim fir 1"), entry(t, 2, 0, 1, "fetch oak 0.5.0"), entry(t, 0, 1, 9, "claim fir 1"), entry(t, 2, 4, 1, "claim fir 1"), entry(t, 2, 1, 8, "give oak 2 4")}
	for _, b := range wrongBooks() {
		for _, e := range entries {
			if got, reply := impl.Obeyed(b, e); !sameBook(got, impl.Book{}) || reply != (impl.Reply{Code: impl.RpBad}) {
				t.Errorf("Obeyed(%v, %v) is %v, %v", b, e, got, reply)
			}
		}
	}
}

func TestObeyedAllAsTold(t *testing.T) {
	b := impl.ObeyedAll(impl.Book{}, []impl.Entry{
		idle(1), entry(t, 1, 1, 1, "claim oak 1"), entry(t, 2, 1, 2, "put oak 1.0.0 leaf 1"), entry(t, 3, 1, 2, "put oak 1.0.0 leaf 1"), entry(t, 3, 1, 1, "claim elm 1"), {}, entry(t, 0, 1, 3, "claim fir 1"),
		entry(t, 1001, 1, 4, "claim fir 1"), entry(t, 3, 4, 1, "claim fir 1"), {Reign: 3, Order: impl.Order{Client: 1, Seq: 5}}, entry(t, 4, 0, 5, "fetch oak 1.0.0"), idle(1000), entry(t, 2, 2, 1, "give oak 1 9"), entry(t, 1000, 3, 1000, "claim oak 3"),
	})
	lasts := []impl.Last{lastWith(0, 5, impl.RpDone, "leaf"), lastWith(1, 2, impl.RpDone, ""), lastWith(2, 1, impl.RpBad, ""), lastWith(3, 1000, impl.RpThere, "")}
	if impl.ShowShelf(b.Shelf) != "oak@1 1.0.0=leaf" || !slices.Equal(b.Lasts, lasts) {
		t.Errorf("it is %v", b)
	}
}

func TestObeyedAllOfNoEntries(t *testing.T) {
	for _, b := range someBooks() {
		for _, entries := range [][]impl.Entry{nil, {}, manyEntries(t, 3)[:0]} {
			if got := impl.ObeyedAll(b, entries); !sameBook(got, b) {
				t.Errorf("ObeyedAll(%v) of none is %v", b, got)
			}
		}
	}
}

func TestObeyedAllByLength(t *testing.T) {
	for _, n := range []int{1, 2, 5, 100, 399, 400, 401, 402, 1000} {
		for _, b := range []impl.Book{{}, {Shelf: threeWorks()}, aBook()} {
			got := impl.ObeyedAll(b, manyEntries(t, n))
			if n <= 400 && (!impl.BookOk(got) || len(got.Lasts) == 0) || n > 400 && !sameBook(got, impl.Book{}) {
				t.Errorf("ObeyedAll of %d is %v", n, got)
			}
			checkObeyedAll(t, b, manyEntries(t, n))
		}
		// The last one counts as each one ahead of it.
		entries := append(slices.Repeat([]impl.Entry{idle(1)}, n-1), entry(t, 1, 2, 1, "claim fir 3"))
		if got := impl.ObeyedAll(impl.Book{}, entries); impl.ShowShelf(got.Shelf) != map[bool]string{true: "fir@3"}[n <= 400] {
			t.Errorf("ObeyedAll of %d is %v", n, got)
		}
	}
	// What orders nothing, and what is no Entry, counts as one.
	for _, e := range []impl.Entry{{}, idle(7), {Reign: 7, Order: impl.Order{Client: 4}}} {
		if got := impl.ObeyedAll(aBook(), slices.Repeat([]impl.Entry{e}, 400)); !sameBook(got, aBook()) {
			t.Errorf("ObeyedAll of 400 times %v is %v", e, got)
		}
		if got := impl.ObeyedAll(aBook(), slices.Repeat([]impl.Entry{e}, 401)); !sameBook(got, impl.Book{}) {
			t.Errorf("ObeyedAll of 401 times %v is %v", e, got)
		}
	}
}

func TestObeyedAllOfWhatIsNoBook(t *testing.T) {
	for _, b := range wrongBooks() {
		for _, entries := range [][]impl.Entry{nil, {{}}, {idle(1)}, manyEntries(t, 9), manyEntries(t, 401)} {
			if got := impl.ObeyedAll(b, entries); !sameBook(got, impl.Book{}) {
				t.Errorf("ObeyedAll(%v) of %d is %v", b, len(entries), got)
			}
		}
	}
}

// someEntries is n of them at random: right ones with Seqs that rise, such as
// came ahead, such with the zero Order, and such that are not right.
func someEntries(t *testing.T, r *rand.Rand, n int) []impl.Entry {
	lines, wrong := bookLines(), wrongEntries(t)
	var entries []impl.Entry
	var seqs [4]int64
	for range n {
		reign := 1 + r.Int63n(1000)
		switch kind := r.Intn(6); {
		case kind == 0:
			entries = append(entries, idle(reign))
		case kind == 1:
			entries = append(entries, wrong[r.Intn(len(wrong))])
		case kind == 2 && len(entries) > 0:
			e := entries[r.Intn(len(entries))]
			e.Reign = reign
			entries = append(entries, e)
		default:
			client := r.Int63n(4)
			seqs[client] += 1 + r.Int63n(3)
			entries = append(entries, entry(t, reign, client, seqs[client], lines[r.Intn(len(lines))]))
		}
	}
	return entries
}

// Promise 7: one after the other, all at once, or in two parts, it is the same.
func TestObeyedAllIsOneAfterTheOther(t *testing.T) {
	for i, start := range someBooks() {
		for seed := range int64(6) {
			entries := someEntries(t, rand.New(rand.NewSource(seed*100+int64(i))), 60)
			b, parts := start, []impl.Book{start}
			for _, e := range entries {
				b, _ = impl.Obeyed(b, e)
				parts = append(parts, b)
			}
			for k, want := range parts {
				if got := impl.ObeyedAll(start, entries[:k]); !sameBook(got, want) {
					t.Fatalf("ObeyedAll(%v, %v) is %v, not %v", start, entries[:k], got, want)
				}
				if got := impl.ObeyedAll(want, entries[k:]); !sameBook(got, b) {
					t.Fatalf("ObeyedAll(%v, %v) is %v, not %v", want, entries[k:], got, b)
				}
			}
			checkObeyedAll(t, start, entries)
		}
	}
}

// Promise 7, of each thing that there may be among Entries, by itself.
func TestObeyedAllOfWhatIsAmongThem(t *testing.T) {
	claim, put := entry(t, 2, 1, 6, "claim fir 1"), entry(t, 2, 1, 7, "put fir 1.0.0 leaf 1")
	for _, start := range []impl.Book{aBook(), {}} {
		plain := impl.ObeyedAll(start, []impl.Entry{claim, put})
		among := append(wrongEntries(t), idle(1), idle(2), idle(1000), claim)
		for _, e := range among {
			b, _ := impl.Obeyed(start, claim)
			b, _ = impl.Obeyed(b, e)
			b, _ = impl.Obeyed(b, put)
			got := impl.ObeyedAll(start, []impl.Entry{claim, e, put})
			if !sameBook(got, b) || !sameBook(got, plain) {
				t.Errorf("ObeyedAll with %v among them is %v, not %v, %v", e, got, b, plain)
			}
		}
		if last, is := impl.LastOf(plain, 1); !is || last != lastWith(1, 7, impl.RpDone, "") {
			t.Errorf("the last one is %v", last)
		}
	}
}

// Promise 21, of this chapter: each one answers at every argument, as the
// document tells.
func TestEntriesAnswerAtEveryArgument(t *testing.T) {
	entries := append(wrongEntries(t), manyEntries(t, 30)...)
	for _, n := range []int64{math.MinInt64, math.MaxInt64} {
		var e impl.Entry
		for at := range numbersIn(&e) {
			*numbersIn(&e)[at] = n
			entries = append(entries, e)
		}
	}
	for _, e := range entries {
		checkEntryOk(t, e, wantEntry(e))
		checkSameEntry(t, e, idle(1), wantSameEntry(e, idle(1)))
	}
	for i, b := range append(someBooks(), wrongBooks()...) {
		for k := i % 23; k < len(entries); k += 23 {
			checkObeyed(t, b, entries[k])
		}
		checkObeyedAll(t, b, entries[i%50:])
	}
	for _, text := range someTexts() {
		name, page := entryOf(1), entryOf(2)
		name.Order.Deed.Name, page.Order.Deed.Page = text, text
		checkEntryOk(t, name, wantName(text))
		checkEntryOk(t, page, wantPage(text))
		checkSameEntry(t, name, entryOf(1), text == "oak")
		checkObeyed(t, aBook(), name)
		checkObeyed(t, impl.Book{Shelf: []impl.Work{named("oak", 2)}}, page)
		checkObeyedAll(t, aBook(), []impl.Entry{page, name, page})
	}
}

// An entriesView is Entries whose texts and list the test can change, with
// spare room behind each.
type entriesView struct {
	entries []impl.Entry
	all     []impl.Entry
	rooms   [][]byte
}

func viewedEntries(entries []impl.Entry) entriesView {
	var v entriesView
	for _, e := range entries {
		var room []byte
		e.Order.Deed, room = viewedDeed(e.Order.Deed)
		v.all, v.rooms = append(v.all, e), append(v.rooms, room)
	}
	v.all = append(v.all, idle(77), idle(88))
	v.entries = v.all[:len(entries)]
	return v
}

// shown is all that is in it, its spare room too, in memory of its own.
func (v entriesView) shown() string {
	text := joined(v.rooms)
	for _, e := range v.all {
		text += entryText(e) + ";"
	}
	return text
}

func (v entriesView) spoil() {
	clear(v.all)
	for _, room := range v.rooms {
		for i := range room {
			room[i] = '#'
		}
	}
}

// An entryAnswer is what the functions that answer more than a flag say of one
// Book: of one Entry alone, within a list, and of no Entries.
type entryAnswer struct {
	one   impl.Book
	reply impl.Reply
	all   impl.Book
	none  impl.Book
}

func entryAnswerOf(b impl.Book, entries []impl.Entry) entryAnswer {
	var a entryAnswer
	a.one, a.reply = impl.Obeyed(b, entries[0])
	a.all = impl.ObeyedAll(b, entries)
	a.none = impl.ObeyedAll(b, entries[:0])
	return a
}

func wantEntryAnswer(b impl.Book, entries []impl.Entry) entryAnswer {
	var a entryAnswer
	a.one, a.reply = wantObeyed(b, entries[0])
	a.all = wantObeyedAll(b, entries)
	a.none = wantObeyedAll(b, nil)
	return a
}

func keepEntryAnswer(a entryAnswer) entryAnswer {
	a.reply.Page = strings.Clone(a.reply.Page)
	return entryAnswer{one: keepBook(a.one), reply: a.reply, all: keepBook(a.all), none: keepBook(a.none)}
}

func sameEntryAnswer(a, b entryAnswer) bool {
	return sameBook(a.one, b.one) && a.reply == b.reply && sameBook(a.all, b.all) && sameBook(a.none, b.none)
}

// memoryEntries is lists that begin with an Entry of each deed (done, refused,
// there already, old, not right), and with such by which nothing is done.
func memoryEntries(t *testing.T) [][]impl.Entry {
	var lists [][]impl.Entry
	for _, orders := range memoryOrders(t) {
		var entries []impl.Entry
		for i, o := range orders {
			entries = append(entries, impl.Entry{Reign: int64(i + 1), Order: o})
		}
		lists = append(lists, append(entries, idle(3), entry(t, 1001, 1, 9, "claim ivy 1")))
	}
	for _, first := range []impl.Entry{{}, idle(1), entry(t, 0, 1, 9, "claim ivy 1"), {Reign: 1, Order: impl.Order{Client: 4, Deed: impl.Deed{Name: "Not right"}}}} {
		lists = append(lists, []impl.Entry{first}, []impl.Entry{first, idle(1000), first})
	}
	return lists
}

// Promise 21, of this chapter: arguments stay, their spare room too, and an
// answer is the same when they are changed behind it.
func TestEntriesKeepTheirArguments(t *testing.T) {
	for _, b := range memoryBooks() {
		for _, entries := range memoryEntries(t) {
			want := keepEntryAnswer(wantEntryAnswer(keepBook(b), entries))
			book, given := viewedBook(b), viewedEntries(entries)
			before, givenBefore := book.shown(), given.shown()
			got := entryAnswerOf(book.book, given.entries)
			impl.EntryOk(given.entries[0])
			impl.SameEntry(given.entries[0], given.entries[len(entries)-1])
			if book.shown() != before || given.shown() != givenBefore {
				t.Fatalf("%s of %s is written into: %s, %s", givenBefore, before, given.shown(), book.shown())
			}
			book.spoil()
			given.spoil()
			if !sameEntryAnswer(got, want) {
				t.Fatalf("%v of %v shares the memory of an argument: %v, not %v", entries, b, got, want)
			}
		}
	}
}

// Promise 21, of this chapter: what is changed in an answer (the Copies of its
// Works, its Shelf, its Lasts, and behind each its spare room) is changed
// neither in the argument nor in another answer.
func TestEntriesAnswerAnewEachTime(t *testing.T) {
	for _, b := range memoryBooks() {
		for _, entries := range memoryEntries(t) {
			v := viewedBook(b)
			before := v.shown()
			first := entryAnswerOf(v.book, entries)
			want := keepEntryAnswer(first)
			second := entryAnswerOf(v.book, entries)
			clearBook(first.one)
			if !sameBook(first.all, want.all) || !sameBook(first.none, want.none) {
				t.Fatalf("%v: a change of Obeyed's answer changes ObeyedAll's: %v", entries, first)
			}
			clearBook(first.all)
			if !sameBook(first.none, want.none) {
				t.Fatalf("%v: a change of one answer of ObeyedAll changes another: %v", entries, first.none)
			}
			clearBook(first.none)
			if v.shown() != before {
				t.Fatalf("%v: a change of an answer changes the argument: %s, not %s", entries, v.shown(), before)
			}
			if third := entryAnswerOf(v.book, entries); !sameEntryAnswer(second, want) || !sameEntryAnswer(third, want) {
				t.Fatalf("%v: a change of one answer changes another: %v, %v", entries, second, third)
			}
		}
	}
}

// Promise 21, of this chapter: no two lists of one answer share memory, not
// even where two lists of the argument do.
func TestEntriesListsShareNoMemory(t *testing.T) {
	copies := workOfLength(6).Copies
	shared := impl.Book{Shelf: []impl.Work{named("elm", 0, copies[:3]...), named("oak", 2, copies[:5]...), named("yew", 1, copies...)}, Lasts: lastsOf(0, 2)}
	for _, b := range append(memoryBooks(), shared) {
		for _, entries := range memoryEntries(t) {
			answer := entryAnswerOf(b, entries)
			checkListsApart(t, answer.one, nil)
			checkListsApart(t, answer.all, nil)
			checkListsApart(t, answer.none, nil)
		}
	}
}

// A text that an answer has twice, in its Reply and in its Last, is in memory
// of its own each time, and in the Copy, too.
func TestEntriesTextsShareNoMemory(t *testing.T) {
	fetch := entry(t, 2, 2, 1, "fetch oak 0.5.0")
	got, reply := impl.Obeyed(aBook(), fetch)
	again, replyAgain := impl.Obeyed(got, fetch)
	idler, _ := impl.Obeyed(again, idle(1))
	wrong, _ := impl.Obeyed(again, idle(0))
	all := impl.ObeyedAll(again, []impl.Entry{idle(1), fetch})
	texts := []string{reply.Page, replyAgain.Page}
	for _, b := range []impl.Book{got, again, idler, wrong, all} {
		texts = append(texts, b.Shelf[1].Copies[0].Page, b.Lasts[1].Reply.Page)
	}
	for i, a := range texts {
		for k, b := range texts {
			if a != "root" || i != k && unsafe.StringData(a) == unsafe.StringData(b) {
				t.Errorf("text %d is %q, in the memory of text %d", i, a, k)
			}
		}
	}
}

func TestEntriesAnswerMayBeTheNextArgument(t *testing.T) {
	one := impl.ObeyedAll(aBook(), []impl.Entry{entry(t, 1, 0, 1, "put oak 5.0.0 five 2"), entry(t, 1, 2, 1, "fetch oak 5.0.0")})
	kept := keepBook(one)
	for _, line := range bookLines() {
		for client := range int64(4) {
			checkObeyed(t, one, entry(t, 2, client, 6, line))
			checkObeyed(t, one, idle(client))
			checkObeyedAll(t, one, []impl.Entry{entry(t, 2, client, 6, line), idle(2), entry(t, 3, client, 7, "fetch oak 5.0.0")})
			if !sameBook(one, kept) {
				t.Fatalf("%q changes its argument: %v", line, one)
			}
		}
	}
}
