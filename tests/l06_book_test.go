package tests

import (
	"math"
	"math/rand"
	"slices"
	"strconv"
	"strings"
	"testing"
	"unsafe"

	"loop.example/g00572/impl"
)

func order(t *testing.T, client, seq int64, line string) impl.Order {
	t.Helper()
	return impl.Order{Client: client, Seq: seq, Deed: deedOf(t, line)}
}

func lastWith(client, seq, code int64, page string) impl.Last {
	return impl.Last{Client: client, Seq: seq, Reply: impl.Reply{Code: code, Page: page}}
}

// aBook is three Works, and Lasts of the Clients 1 and 3 alone, so there are
// Clients ahead of these, between and behind none.
func aBook() impl.Book {
	return impl.Book{Shelf: threeWorks(), Lasts: []impl.Last{lastWith(1, 5, impl.RpDone, "bark"), lastWith(3, 1000, impl.RpOwner, "")}}
}

// lastsOf has a Last of each of these Clients, of Seqs that do not rise.
func lastsOf(clients ...int64) []impl.Last {
	var lasts []impl.Last
	for i, c := range clients {
		lasts = append(lasts, lastWith(c, int64(9-i), impl.RpDone, ""))
	}
	return lasts
}

func keepBook(b impl.Book) impl.Book {
	var lasts []impl.Last
	for _, l := range b.Lasts {
		l.Reply.Page = strings.Clone(l.Reply.Page)
		lasts = append(lasts, l)
	}
	return impl.Book{Shelf: keepShelf(b.Shelf), Lasts: lasts}
}

// sameBook has no difference between an empty list and nil, as the document.
func sameBook(a, b impl.Book) bool {
	return sameShelf(a.Shelf, b.Shelf) && slices.Equal(a.Lasts, b.Lasts)
}

// The document's words once more, by another way than the program's: Lasts are
// right when to pick the first right one of each Client, one Client after the
// other, leaves them as they are.
func pickedLasts(lasts []impl.Last) []impl.Last {
	var out []impl.Last
	for client := range int64(4) {
		at := slices.IndexFunc(lasts, func(l impl.Last) bool { return l.Client == client && l.Seq >= 1 && l.Seq <= 1000 })
		if at >= 0 {
			out = append(out, lasts[at])
		}
	}
	return out
}

func wantOrder(o impl.Order) bool {
	return slices.Contains([]int64{0, 1, 2, 3}, o.Client) && o.Seq > 0 && o.Seq < 1001 && wantDeed(o.Deed)
}

func wantBook(b impl.Book) bool {
	return wantShelf(b.Shelf) && slices.Equal(pickedLasts(b.Lasts), b.Lasts)
}

func wantOrdered(b impl.Book, o impl.Order) (impl.Book, impl.Reply) {
	switch {
	case !wantBook(b):
		return impl.Book{}, impl.Reply{Code: 7}
	case !wantOrder(o):
		return b, impl.Reply{Code: 7}
	}
	for _, l := range b.Lasts {
		if l.Client == o.Client && l.Seq == o.Seq {
			return b, l.Reply
		}
		if l.Client == o.Client && l.Seq > o.Seq {
			return b, impl.Reply{Code: 6}
		}
	}
	shelf, reply := wantDoes(b.Shelf, o.Deed)
	now := impl.Last{Client: o.Client, Seq: o.Seq, Reply: reply}
	return impl.Book{Shelf: shelf, Lasts: pickedLasts(append([]impl.Last{now}, b.Lasts...))}, reply
}

func wantAllOrdered(b impl.Book, orders []impl.Order) (impl.Book, []impl.Reply) {
	if !wantBook(b) || len(orders) > 400 {
		return impl.Book{}, nil
	}
	var replies []impl.Reply
	for _, o := range orders {
		var reply impl.Reply
		b, reply = wantOrdered(b, o)
		replies = append(replies, reply)
	}
	return b, replies
}

func checkOrderOk(t *testing.T, o impl.Order, want bool) {
	t.Helper()
	if wantOrder(o) != want {
		t.Fatalf("the test takes %v otherwise", o)
	}
	if impl.OrderOk(o) != want {
		t.Errorf("OrderOk(%v) is %v", o, !want)
	}
}

func checkBookOk(t *testing.T, b impl.Book, want bool) {
	t.Helper()
	if wantBook(b) != want {
		t.Fatalf("the test takes %v otherwise", b)
	}
	if impl.BookOk(b) != want {
		t.Errorf("BookOk(%v) is %v", b, !want)
	}
}

func checkOrdered(t *testing.T, b impl.Book, o impl.Order) {
	t.Helper()
	want, wantReply := wantOrdered(b, o)
	if got, reply := impl.Ordered(b, o); !sameBook(got, want) || reply != wantReply {
		t.Fatalf("Ordered(%v, %v) is %v, %v, not %v, %v", b, o, got, reply, want, wantReply)
	}
}

func checkAllOrdered(t *testing.T, b impl.Book, orders []impl.Order) {
	t.Helper()
	want, wantReplies := wantAllOrdered(b, orders)
	if got, replies := impl.AllOrdered(b, orders); !sameBook(got, want) || !slices.Equal(replies, wantReplies) {
		t.Fatalf("AllOrdered(%v, %v) is %v, %v, not %v, %v", b, orders, got, replies, want, wantReplies)
	}
}

// checkLastOf takes any one of that Client: of a Book that has several, the
// document does not say which.
func checkLastOf(t *testing.T, b impl.Book, client int64) {
	t.Helper()
	got, is := impl.LastOf(b, client)
	wantIs := slices.ContainsFunc(b.Lasts, func(l impl.Last) bool { return l.Client == client })
	right := !wantIs && got == impl.Last{}
	for _, l := range b.Lasts {
		right = right || l.Client == client && got == l
	}
	if is != wantIs || !right {
		t.Fatalf("LastOf(%v, %d) is %v, %v", b, client, got, is)
	}
}

// checkStays asks for that Reply, and for the Book as it was.
func checkStays(t *testing.T, b impl.Book, o impl.Order, want impl.Reply) {
	t.Helper()
	if got, reply := impl.Ordered(b, o); reply != want || !sameBook(got, b) {
		t.Errorf("Ordered(%v, %v) is %v, %v, not as it was and %v", b, o, got, reply, want)
	}
	checkOrdered(t, b, o)
}

// checkNext asks for that Reply, for that shelf as it is shown, and for these
// Lasts.
func checkNext(t *testing.T, b impl.Book, o impl.Order, want impl.Reply, shown string, lasts ...impl.Last) {
	t.Helper()
	got, reply := impl.Ordered(b, o)
	if reply != want || impl.ShowShelf(got.Shelf) != shown || !slices.Equal(got.Lasts, lasts) || !impl.BookOk(got) {
		t.Errorf("Ordered(%v, %v) is %v, %v, not %q, %v, %v", b, o, got, reply, shown, lasts, want)
	}
	checkOrdered(t, b, o)
}

// wrongLasts is Lasts with each thing that may be wrong.
func wrongLasts() [][]impl.Last {
	rows := [][]impl.Last{make([]impl.Last, 1), make([]impl.Last, 1000), lastsOf(0, 1, 2, 3, 4), lastsOf(-1, 0, 1, 2, 3), lastsOf(0, 1, 2, 3, 3)}
	for _, clients := range [][]int64{{-1}, {4}, {math.MinInt64}, {math.MaxInt64}, {-1, 0}, {3, 4}, {1, 0}, {3, 0}, {3, 2, 1, 0}, {0, 2, 1}, {1, 0, 2}, {0, 2, 1, 3}, {0, 0}, {3, 3}, {0, 1, 1}, {1, 1, 2}, {1, 2, 1}} {
		rows = append(rows, lastsOf(clients...))
	}
	for at := range 4 {
		for _, seq := range []int64{math.MinInt64, -1, 0, 1001, 1002, 1 << 32, math.MaxInt64} {
			lasts := lastsOf(0, 1, 2, 3)
			lasts[at].Seq = seq
			rows = append(rows, lasts)
		}
	}
	return rows
}

func wrongBooks() []impl.Book {
	var books []impl.Book
	for _, s := range wrongShelves() {
		books = append(books, impl.Book{Shelf: s}, impl.Book{Shelf: s, Lasts: lastsOf(1, 3)})
	}
	for _, lasts := range wrongLasts() {
		books = append(books, impl.Book{Lasts: lasts}, impl.Book{Shelf: threeWorks(), Lasts: lasts})
	}
	return append(books, impl.Book{Shelf: shelfOfLength(6), Lasts: lastsOf(1, 0)})
}

// someBooks is right ones: of every set of Clients, and of some shelves.
func someBooks() []impl.Book {
	books := []impl.Book{{}, {Shelf: []impl.Work{}, Lasts: []impl.Last{}}, aBook(), {Shelf: shelfOfLength(5), Lasts: lastsOf(0, 1, 2, 3)}, {Shelf: []impl.Work{named("oak", 2, workOfLength(8).Copies...)}}}
	for set := range 16 {
		var clients []int64
		for c := range int64(4) {
			if set>>c&1 == 1 {
				clients = append(clients, c)
			}
		}
		books = append(books, impl.Book{Shelf: threeWorks(), Lasts: lastsOf(clients...)})
	}
	return books
}

// wrongOrders is orders with each thing that may be wrong, and a deed that a
// shelf would do or refuse.
func wrongOrders(t *testing.T) []impl.Order {
	var orders []impl.Order
	for _, line := range []string{"claim fir 1", "fetch oak 0.5.0", "claim oak 2"} {
		for _, client := range []int64{math.MinInt64, -1, 4, 5, 256, 1 << 32, math.MaxInt64} {
			orders = append(orders, order(t, client, 7, line))
		}
		for _, seq := range []int64{math.MinInt64, -1, 0, 1001, 1002, 1 << 32, math.MaxInt64} {
			orders = append(orders, order(t, 1, seq, line), order(t, 0, seq, line))
		}
	}
	for _, client := range []int64{0, 1, 3} {
		for _, seq := range []int64{1, 5, 6, 1000} {
			for _, d := range []impl.Deed{{}, {Kind: 7, Name: "oak"}, {Kind: 1, Name: "Oak"}, {Kind: 1, Name: "fir", Who: 4}, {Kind: 1, Name: "fir", Page: "leaf"}, {Kind: 6, Name: "oak", Edition: edition(1, 0, 1), Who: 2}} {
				orders = append(orders, impl.Order{Client: client, Seq: seq, Deed: d})
			}
		}
	}
	return append(orders, impl.Order{})
}

// bookLines is a deed of each kind, done and refused, of what threeWorks have.
func bookLines() []string { return append(memoryLines(), "put yew 9.0.0 - 1", "give elm 0 99") }

func TestBookNumbersAsTold(t *testing.T) {
	if impl.MaxSeq != 1000 {
		t.Error(impl.MaxSeq)
	}
}

func TestOrderOkAtEachLimit(t *testing.T) {
	for kind := int64(1); kind <= 6; kind++ {
		for _, client := range []int64{math.MinInt64, -4, -1, 0, 1, 2, 3, 4, 5, 256, 1 << 32, math.MaxInt64} {
			checkOrderOk(t, impl.Order{Client: client, Seq: 1, Deed: aDeedOf(kind)}, client >= 0 && client <= 3)
		}
		for _, seq := range []int64{math.MinInt64, -1, 0, 1, 2, 500, 999, 1000, 1001, 1002, 1<<32 + 1, math.MaxInt64} {
			for client := range int64(4) {
				checkOrderOk(t, impl.Order{Client: client, Seq: seq, Deed: aDeedOf(kind)}, seq >= 1 && seq <= 1000)
			}
		}
		checkOrderOk(t, impl.Order{Client: 4, Seq: 1001, Deed: aDeedOf(kind)}, false)
	}
	checkOrderOk(t, impl.Order{}, false)
}

func TestOrderOkOfDeeds(t *testing.T) {
	checkOrderOk(t, impl.Order{Client: 1, Seq: 1}, false)
	for _, d := range shelfDeeds() {
		checkOrderOk(t, impl.Order{Client: 3, Seq: 1000, Deed: d}, wantDeed(d))
		checkOrderOk(t, impl.Order{Client: 0, Seq: 0, Deed: d}, false)
	}
	// A right deed may be one that no shelf does.
	checkOrderOk(t, order(t, 2, 2, "give oak 1 4"), true)
	checkOrderOk(t, order(t, 2, 2, "give oak 1 99"), true)
	for _, o := range wrongOrders(t) {
		checkOrderOk(t, o, false)
	}
}

func TestBookOkAsTold(t *testing.T) {
	checkBookOk(t, impl.Book{}, true)
	for _, b := range someBooks() {
		checkBookOk(t, b, true)
	}
	for _, b := range wrongBooks() {
		checkBookOk(t, b, false)
	}
}

func TestBookOkOfShelves(t *testing.T) {
	for n := range 8 {
		checkBookOk(t, impl.Book{Shelf: shelfOfLength(n), Lasts: lastsOf(2)}, n <= 5)
	}
	for _, s := range someShelves() {
		checkBookOk(t, impl.Book{Shelf: s, Lasts: lastsOf(0, 3)}, true)
	}
	for _, s := range wrongShelves() {
		checkBookOk(t, impl.Book{Shelf: s}, false)
		checkBookOk(t, impl.Book{Shelf: s, Lasts: lastsOf(0, 3)}, false)
	}
}

// Every row of at most five of the Clients from -1 to 4, so of every order of
// them.
func TestBookOkOfAllClients(t *testing.T) {
	rows := [][]int64{nil}
	right := 0
	for at := 0; at < len(rows); at++ {
		b := impl.Book{Lasts: lastsOf(rows[at]...)}
		checkBookOk(t, b, wantBook(b))
		if impl.BookOk(b) {
			right++
		}
		for client := int64(-1); client <= 4 && len(rows[at]) < 5; client++ {
			rows = append(rows, append(slices.Clone(rows[at]), client))
		}
	}
	if right != 16 {
		t.Errorf("of four Clients %d rows are right", right)
	}
}

func TestBookOkOfSeqs(t *testing.T) {
	for _, seq := range []int64{math.MinInt64, -1, 0, 1, 2, 999, 1000, 1001, 1<<32 + 1, math.MaxInt64} {
		for at := range 4 {
			lasts := lastsOf(0, 1, 2, 3)
			lasts[at].Seq = seq
			checkBookOk(t, impl.Book{Lasts: lasts}, seq >= 1 && seq <= 1000)
		}
	}
	// Clients rise, their Seqs need not.
	for _, seqs := range [][4]int64{{1, 2, 3, 4}, {4, 3, 2, 1}, {7, 7, 7, 7}, {1000, 1, 1000, 1}} {
		lasts := lastsOf(0, 1, 2, 3)
		for i := range lasts {
			lasts[i].Seq = seqs[i]
		}
		checkBookOk(t, impl.Book{Lasts: lasts}, true)
	}
}

// The chapter tells nothing of a Last's Reply.
func TestBookOkOfReplies(t *testing.T) {
	for _, code := range []int64{math.MinInt64, -1, 0, 6, 7, 8, math.MaxInt64} {
		for _, page := range []string{"", "leaf", "Not a page", "abcdefghijklm"} {
			b := impl.Book{Lasts: []impl.Last{lastWith(1, 2, code, page)}}
			checkBookOk(t, b, true)
			checkStays(t, b, order(t, 1, 2, "claim oak 1"), impl.Reply{Code: code, Page: page})
		}
	}
}

func TestOrderedOfAClientWithNoLast(t *testing.T) {
	for client := range int64(4) {
		for _, seq := range []int64{1, 2, 500, 1000} {
			checkNext(t, impl.Book{}, order(t, client, seq, "claim oak 2"), impl.Reply{}, "oak@2", lastWith(client, seq, impl.RpDone, ""))
			checkNext(t, impl.Book{}, order(t, client, seq, "fetch oak 1.0.0"), impl.Reply{Code: impl.RpNone}, "", lastWith(client, seq, impl.RpNone, ""))
		}
	}
}

// Ahead of, between and behind those that have a Last.
func TestOrderedPutsALastWhereItBelongs(t *testing.T) {
	b := impl.Book{Shelf: []impl.Work{named("oak", 2, aCopy(edition(1, 0, 0), "leaf"))}, Lasts: []impl.Last{lastWith(1, 5, impl.RpDone, "bark"), lastWith(2, 3, impl.RpFull, "")}}
	shown := "oak@2 1.0.0=leaf"
	done := impl.Reply{Code: impl.RpDone, Page: "leaf"}
	one, two := b.Lasts[0], b.Lasts[1]
	checkNext(t, b, order(t, 0, 1, "fetch oak 1.0.0"), done, shown, lastWith(0, 1, impl.RpDone, "leaf"), one, two)
	checkNext(t, b, order(t, 1, 6, "fetch oak 1.0.0"), done, shown, lastWith(1, 6, impl.RpDone, "leaf"), two)
	checkNext(t, b, order(t, 2, 4, "fetch oak 1.0.0"), done, shown, one, lastWith(2, 4, impl.RpDone, "leaf"))
	checkNext(t, b, order(t, 3, 1000, "fetch oak 1.0.0"), done, shown, one, two, lastWith(3, 1000, impl.RpDone, "leaf"))
	apart := impl.Book{Shelf: b.Shelf, Lasts: []impl.Last{lastWith(0, 9, impl.RpBad, ""), lastWith(3, 8, impl.RpThere, "")}}
	checkNext(t, apart, order(t, 1, 1, "fetch oak 1.0.0"), done, shown, apart.Lasts[0], lastWith(1, 1, impl.RpDone, "leaf"), apart.Lasts[1])
	checkNext(t, apart, order(t, 2, 1, "fetch oak 1.0.0"), done, shown, apart.Lasts[0], lastWith(2, 1, impl.RpDone, "leaf"), apart.Lasts[1])
}

func TestOrderedOfEachSeq(t *testing.T) {
	for _, have := range []int64{1, 2, 500, 999, 1000} {
		b := impl.Book{Shelf: []impl.Work{named("elm", 1)}, Lasts: []impl.Last{lastWith(2, have, impl.RpThere, "bark")}}
		for _, seq := range []int64{1, 2, 3, 499, 500, 501, 998, 999, 1000} {
			o := order(t, 2, seq, "claim oak 2")
			switch {
			case seq == have:
				checkStays(t, b, o, impl.Reply{Code: impl.RpThere, Page: "bark"})
			case seq < have:
				checkStays(t, b, o, impl.Reply{Code: impl.RpOld})
			default:
				checkNext(t, b, o, impl.Reply{}, "elm@1/oak@2", lastWith(2, seq, impl.RpDone, ""))
			}
			// It is the Client's own Last that matters, not another one's.
			other := order(t, 1, seq, "claim oak 2")
			checkNext(t, b, other, impl.Reply{}, "elm@1/oak@2", lastWith(1, seq, impl.RpDone, ""), b.Lasts[0])
		}
	}
}

// The Reply of an order that the shelf refuses is its Last, too.
func TestOrderedOfWhatTheShelfRefuses(t *testing.T) {
	full := impl.Book{Shelf: shelfOfLength(5), Lasts: lastsOf(0)}
	for _, c := range []struct {
		b    impl.Book
		line string
		code int64
	}{
		{aBook(), "claim oak 1", impl.RpThere}, {full, "claim z 1", impl.RpFull}, {full, "claim a 1", impl.RpFull}, {aBook(), "put fir 1.0.0 leaf 1", impl.RpNone}, {aBook(), "put oak 9.0.0 leaf 1", impl.RpOwner}, {aBook(), "put oak 0.5.0 leaf 2", impl.RpThere}, {aBook(), "put yew 9.0.0 leaf 1", impl.RpFull},
		{aBook(), "hide oak 9.0.0 2", impl.RpNone}, {aBook(), "show oak 0.5.0 3", impl.RpOwner}, {aBook(), "fetch fir 1.0.0", impl.RpNone}, {aBook(), "fetch oak 0.7.1", impl.RpHidden}, {aBook(), "give fir 1 2", impl.RpNone}, {aBook(), "give oak 1 2", impl.RpOwner}, {aBook(), "give oak 2 4", impl.RpBad}, {aBook(), "give fir 1 99", impl.RpBad},
	} {
		o := order(t, 2, 7, c.line)
		got, reply := impl.Ordered(c.b, o)
		if last, is := impl.LastOf(got, 2); !is || last != lastWith(2, 7, c.code, "") || reply != (impl.Reply{Code: c.code}) || !sameShelf(got.Shelf, c.b.Shelf) {
			t.Errorf("%q is %v, %v, not of code %d", c.line, got, reply, c.code)
		}
		checkOrdered(t, c.b, o)
		checkStays(t, got, o, impl.Reply{Code: c.code})
	}
}

func TestOrderedOfWhatIsNoBook(t *testing.T) {
	orders := []impl.Order{{}, order(t, 1, 5, "claim fir 1"), order(t, 0, 1, "fetch oak 0.5.0"), order(t, 3, 1, "put oak 9.0.0 new 2"), order(t, 4, 1, "claim fir 1"), order(t, 1, 9, "claim fir 1"), order(t, 1, 8, "give oak 2 4")}
	for _, b := range wrongBooks() {
		for _, o := range orders {
			if got, reply := impl.Ordered(b, o); !sameBook(got, impl.Book{}) || reply != (impl.Reply{Code: impl.RpBad}) {
				t.Errorf("Ordered(%v, %v) is %v, %v", b, o, got, reply)
			}
		}
	}
}

// What is no order leaves no Last, and is RpBad even where its Seq is one that
// was there, or a lesser one.
func TestOrderedOfWhatIsNoOrder(t *testing.T) {
	for _, b := range someBooks() {
		for _, o := range wrongOrders(t) {
			checkStays(t, b, o, impl.Reply{Code: impl.RpBad})
		}
	}
}

func TestOrderedOfManyOrders(t *testing.T) {
	deeds := shelfDeeds()
	codes := map[int64]int{}
	for i, b := range someBooks() {
		for k, d := range deeds {
			if (i+k)%7 != 0 {
				continue
			}
			o := impl.Order{Client: int64(k % 4), Seq: int64(5 + (i+k)/7%6), Deed: d}
			checkOrdered(t, b, o)
			_, reply := impl.Ordered(b, o)
			codes[reply.Code]++
		}
	}
	for code := range int64(8) {
		if codes[code] == 0 {
			t.Errorf("no order was of code %d", code)
		}
	}
}

// Promise 6, at once: given a second time, an order has the Reply that it had,
// and the Book is as it was; so has another order of that Seq.
func TestAnOrderGivenTwiceIsDoneOnce(t *testing.T) {
	for _, b := range someBooks() {
		for _, line := range bookLines() {
			for client := range int64(4) {
				for _, seq := range []int64{10, 1000} {
					o := order(t, client, seq, line)
					once, reply := impl.Ordered(b, o)
					checkStays(t, once, o, reply)
					checkStays(t, once, order(t, client, seq, "claim new 3"), reply)
					checkStays(t, once, order(t, client, seq-1, line), impl.Reply{Code: impl.RpOld})
					checkStays(t, once, order(t, client, 1, line), impl.Reply{Code: impl.RpOld})
				}
			}
		}
	}
}

// Promise 6, behind others' orders: they change what the shelf would answer
// now, and the Reply is the one that it had all the same.
func TestAnOrderGivenTwiceBehindOthersIsDoneOnce(t *testing.T) {
	for _, c := range []struct {
		line   string
		reply  impl.Reply
		others []string
	}{
		{"claim fir 1", impl.Reply{}, []string{"give fir 1 2", "put fir 1.0.0 leaf 2"}},
		{"put elm 1.0.0 leaf 0", impl.Reply{}, []string{"hide elm 1.0.0 0", "give elm 0 3"}},
		{"put fir 1.0.0 leaf 1", impl.Reply{Code: impl.RpNone}, []string{"claim fir 1"}},
		{"put oak 9.0.0 leaf 1", impl.Reply{Code: impl.RpOwner}, []string{"give oak 2 1"}},
		{"hide oak 0.5.0 2", impl.Reply{}, []string{"show oak 0.5.0 2"}},
		{"show oak 0.7.1 2", impl.Reply{}, []string{"hide oak 0.7.1 2"}},
		{"fetch oak 0.5.0", impl.Reply{Page: "root"}, []string{"hide oak 0.5.0 2"}},
		{"fetch oak 0.7.1", impl.Reply{Code: impl.RpHidden}, []string{"show oak 0.7.1 2"}},
		{"fetch oak 9.0.0", impl.Reply{Code: impl.RpNone}, []string{"put oak 9.0.0 leaf 2"}},
		{"give oak 2 3", impl.Reply{}, []string{"give oak 3 2"}},
	} {
		o := order(t, 2, 1, c.line)
		b, reply := impl.Ordered(aBook(), o)
		for i, other := range c.others {
			var code impl.Reply
			if b, code = impl.Ordered(b, order(t, 0, int64(i+1), other)); code.Code != impl.RpDone {
				t.Errorf("%q behind %q is %v", other, c.line, code)
			}
		}
		if reply != c.reply {
			t.Errorf("%q is %v, not %v", c.line, reply, c.reply)
		}
		if again, now := impl.Does(b.Shelf, o.Deed); now == c.reply && sameShelf(again, b.Shelf) {
			t.Errorf("%q would not be seen if it were done once more", c.line)
		}
		checkStays(t, b, o, c.reply)
	}
}

// Promise 6, of many orders, each given again and again among others': what is
// done of them all is what is done of each one's first time.
func TestOrdersGivenAgainAreDoneOnce(t *testing.T) {
	lines := []string{"claim fir 1", "claim ash 0", "claim ivy 2", "put fir 1.0.0 a 1", "put fir 2.0.0 b 1", "put elm 1.0.0 c 0", "hide oak 0.5.0 2", "show oak 0.5.0 2", "fetch oak 0.5.0", "fetch fir 1.0.0", "give oak 2 3", "give oak 3 2", "give fir 1 4", "hide fir 1.0.0 1"}
	for seed := range int64(40) {
		r := rand.New(rand.NewSource(seed))
		var seqs [4]int64
		var given []impl.Order
		had := map[[2]int64]impl.Reply{}
		b := impl.Book{Shelf: threeWorks()}
		shelf := threeWorks()
		for range 150 {
			if len(given) > 0 && r.Intn(3) > 0 {
				o := given[r.Intn(len(given))]
				want := had[[2]int64{o.Client, o.Seq}]
				if o.Seq < seqs[o.Client] {
					want = impl.Reply{Code: impl.RpOld}
				}
				checkStays(t, b, o, want)
				continue
			}
			client := r.Int63n(4)
			seqs[client] += 1 + r.Int63n(3)
			o := order(t, client, seqs[client], lines[r.Intn(len(lines))])
			var reply, want impl.Reply
			b, reply = impl.Ordered(b, o)
			if shelf, want = impl.Does(shelf, o.Deed); reply != want || !sameShelf(b.Shelf, shelf) {
				t.Fatalf("%v is %v, %v, not %v, %v", o, b.Shelf, reply, shelf, want)
			}
			had[[2]int64{o.Client, o.Seq}] = reply
			given = append(given, o)
		}
	}
}

func TestAllOrderedAsTold(t *testing.T) {
	b, replies := impl.AllOrdered(impl.Book{}, []impl.Order{
		order(t, 1, 1, "claim oak 1"), order(t, 1, 2, "put oak 1.0.0 leaf 1"), order(t, 1, 2, "put oak 1.0.0 leaf 1"), order(t, 1, 1, "claim elm 1"),
		order(t, 0, 5, "fetch oak 1.0.0"), order(t, 4, 1, "claim elm 1"), {}, order(t, 3, 1, "claim oak 3"), order(t, 2, 1, "give oak 1 9"), order(t, 0, 6, "hide oak 1.0.0 1"), order(t, 0, 7, "fetch oak 1.0.0"),
	})
	want := []impl.Reply{{}, {}, {}, {Code: impl.RpOld}, {Page: "leaf"}, {Code: impl.RpBad}, {Code: impl.RpBad}, {Code: impl.RpThere}, {Code: impl.RpBad}, {}, {Code: impl.RpHidden}}
	lasts := []impl.Last{lastWith(0, 7, impl.RpHidden, ""), lastWith(1, 2, impl.RpDone, ""), lastWith(2, 1, impl.RpBad, ""), lastWith(3, 1, impl.RpThere, "")}
	if impl.ShowShelf(b.Shelf) != "oak@1 1.0.0=leaf*" || !slices.Equal(b.Lasts, lasts) || !slices.Equal(replies, want) {
		t.Errorf("it is %v, %v", b, replies)
	}
}

func TestAllOrderedOfNoOrders(t *testing.T) {
	for _, b := range someBooks() {
		for _, orders := range [][]impl.Order{nil, {}} {
			if got, replies := impl.AllOrdered(b, orders); !sameBook(got, b) || len(replies) != 0 {
				t.Errorf("AllOrdered(%v) of none is %v, %v", b, got, replies)
			}
		}
	}
}

// manyOrders is n orders: each Client's Seqs rise, and some are given twice.
func manyOrders(t *testing.T, n int) []impl.Order {
	lines := bookLines()
	var orders []impl.Order
	for i := range n {
		orders = append(orders, order(t, int64(i%4), int64(1+i/8), lines[i%len(lines)]))
	}
	return orders
}

func TestAllOrderedByLength(t *testing.T) {
	for _, n := range []int{1, 2, 5, 100, 399, 400, 401, 402, 1000} {
		for _, b := range []impl.Book{{}, {Shelf: threeWorks()}, aBook()} {
			orders := manyOrders(t, n)
			got, replies := impl.AllOrdered(b, orders)
			if n <= 400 && (len(replies) != n || !impl.BookOk(got) || len(got.Lasts) == 0) {
				t.Errorf("AllOrdered of %d is %v, %v", n, got, replies)
			}
			if n > 400 && (len(replies) != 0 || !sameBook(got, impl.Book{})) {
				t.Errorf("AllOrdered of %d is %v, %v", n, got, replies)
			}
			checkAllOrdered(t, b, orders)
		}
	}
	// What is no order counts as one.
	if got, replies := impl.AllOrdered(aBook(), make([]impl.Order, 400)); len(replies) != 400 || !sameBook(got, aBook()) || slices.Contains(replies, impl.Reply{}) {
		t.Errorf("AllOrdered of 400 that are none is %v, %v", got, replies)
	}
	if got, replies := impl.AllOrdered(aBook(), make([]impl.Order, 401)); len(replies) != 0 || !sameBook(got, impl.Book{}) {
		t.Errorf("AllOrdered of 401 that are none is %v, %v", got, replies)
	}
}

func TestAllOrderedIsOneAfterTheOther(t *testing.T) {
	for _, start := range someBooks() {
		orders := append(manyOrders(t, 90), wrongOrders(t)...)
		rand.New(rand.NewSource(3)).Shuffle(len(orders), func(i, k int) { orders[i], orders[k] = orders[k], orders[i] })
		b, want := start, []impl.Reply(nil)
		for _, o := range orders {
			var reply impl.Reply
			b, reply = impl.Ordered(b, o)
			want = append(want, reply)
		}
		if got, replies := impl.AllOrdered(start, orders); !sameBook(got, b) || !slices.Equal(replies, want) {
			t.Fatalf("AllOrdered(%v) is %v, %v, not %v, %v", start, got, replies, b, want)
		}
		checkAllOrdered(t, start, orders)
	}
}

func TestAllOrderedOfWhatIsNoBook(t *testing.T) {
	for _, b := range wrongBooks() {
		for _, n := range []int{0, 1, 3, 401} {
			if got, replies := impl.AllOrdered(b, manyOrders(t, n)); !sameBook(got, impl.Book{}) || len(replies) != 0 {
				t.Errorf("AllOrdered(%v) of %d is %v, %v", b, n, got, replies)
			}
		}
	}
}

func TestLastOfAsTold(t *testing.T) {
	for _, b := range someBooks() {
		for client := range int64(4) {
			at := slices.IndexFunc(b.Lasts, func(l impl.Last) bool { return l.Client == client })
			got, is := impl.LastOf(b, client)
			if at >= 0 && (!is || got != b.Lasts[at]) || at < 0 && (is || got != impl.Last{}) {
				t.Errorf("LastOf(%v, %d) is %v, %v", b, client, got, is)
			}
		}
		for _, client := range []int64{math.MinInt64, -1, 4, 5, math.MaxInt64} {
			if got, is := impl.LastOf(b, client); is || got != (impl.Last{}) {
				t.Errorf("LastOf(%v, %d) is %v, %v", b, client, got, is)
			}
		}
	}
	if got, is := impl.LastOf(aBook(), 1); !is || got != lastWith(1, 5, impl.RpDone, "bark") {
		t.Errorf("LastOf(%v, 1) is %v, %v", aBook(), got, is)
	}
}

// LastOf refuses no Book: what has a Last has it, whatever else is not right.
func TestLastOfWhatIsNoBook(t *testing.T) {
	for _, b := range wrongBooks() {
		for _, client := range []int64{math.MinInt64, -1, 0, 1, 2, 3, 4, math.MaxInt64} {
			checkLastOf(t, b, client)
		}
	}
	for _, lasts := range [][]impl.Last{{lastWith(3, 2, 0, "a"), lastWith(1, 0, 9, "Not a page")}, {lastWith(7, 1, 0, ""), lastWith(3, 2, 0, "a"), lastWith(1, 1001, 0, ""), lastWith(-1, 1, 0, "")}} {
		for _, want := range lasts {
			for _, s := range [][]impl.Work{nil, threeWorks(), shelfOfLength(6)} {
				if got, is := impl.LastOf(impl.Book{Shelf: s, Lasts: lasts}, want.Client); !is || got != want {
					t.Errorf("LastOf(%v, %d) is %v, %v", lasts, want.Client, got, is)
				}
			}
		}
	}
}

// Promise 21, of this chapter: each one answers at every argument, as the
// document tells.
func TestBookAnswersAtEveryArgument(t *testing.T) {
	numbers := []int64{math.MinInt64, -1, 0, 1, 3, 4, 5, 6, 1000, 1001, math.MaxInt64}
	books := append(someBooks(), wrongBooks()...)
	deeds := []impl.Deed{{}, deedOf(t, "claim fir 1"), deedOf(t, "put oak 9.0.0 new 2"), {Kind: math.MinInt64, Name: "\xff"}, {Kind: math.MaxInt64, Page: "\x00", Who: math.MinInt64}}
	for i, b := range books {
		checkBookOk(t, b, wantBook(b))
		for k, client := range numbers {
			checkLastOf(t, b, client)
			o := impl.Order{Client: client, Seq: numbers[(i+k)%len(numbers)], Deed: deeds[(i+k)%len(deeds)]}
			checkOrderOk(t, o, wantOrder(o))
			checkOrdered(t, b, o)
			checkAllOrdered(t, b, []impl.Order{o, order(t, 1, 7, "claim fir 1"), o})
		}
	}
	for _, text := range someTexts() {
		o := impl.Order{Client: 1, Seq: 6, Deed: impl.Deed{Kind: 2, Name: "oak", Edition: edition(9, 0, 0), Page: text, Who: 2}}
		checkOrderOk(t, o, wantPage(text))
		checkOrdered(t, aBook(), o)
		checkAllOrdered(t, aBook(), []impl.Order{o, {Client: 2, Seq: 1, Deed: impl.Deed{Kind: 1, Name: text}}})
		checkLastOf(t, impl.Book{Lasts: []impl.Last{lastWith(0, 1, 0, text)}}, 0)
	}
}

// A bookView is a Book whose texts and lists the test can change, with spare
// room behind each.
type bookView struct {
	book  impl.Book
	shelf shelfView
	lasts []impl.Last
	room  []byte
}

func viewedBook(b impl.Book) bookView {
	text := ""
	for _, l := range b.Lasts {
		text += l.Reply.Page
	}
	v := bookView{shelf: viewedShelf(b.Shelf), room: []byte(text + "SPARE_ROOM")}
	rest := v.room
	for _, l := range b.Lasts {
		n := len(l.Reply.Page)
		l.Reply.Page = unsafe.String(&rest[0], n)
		rest = rest[n:]
		v.lasts = append(v.lasts, l)
	}
	v.lasts = append(v.lasts, lastWith(2, 8, 3, "spare"), lastWith(3, 9, 4, "room"))
	v.book = impl.Book{Shelf: v.shelf.shelf, Lasts: v.lasts[:len(b.Lasts)]}
	return v
}

// shown is all that is in it, its spare room too, in memory of its own.
func (v bookView) shown() string {
	text := v.shelf.shown() + string(v.room)
	for _, l := range v.lasts {
		for _, n := range []int64{l.Client, l.Seq, l.Reply.Code} {
			text += strconv.FormatInt(n, 10) + ","
		}
		text += l.Reply.Page + ";"
	}
	return text
}

func (v bookView) spoil() {
	v.shelf.spoil()
	clear(v.lasts)
	for i := range v.room {
		v.room[i] = '#'
	}
}

// A bookAnswer is what the functions that answer more than a flag say of one
// Book and one order, each alone and within a list.
type bookAnswer struct {
	one     impl.Book
	reply   impl.Reply
	all     impl.Book
	replies []impl.Reply
	last    impl.Last
}

func bookAnswerOf(b impl.Book, orders []impl.Order) bookAnswer {
	var a bookAnswer
	a.one, a.reply = impl.Ordered(b, orders[0])
	a.all, a.replies = impl.AllOrdered(b, orders)
	a.last, _ = impl.LastOf(b, 1)
	return a
}

func wantBookAnswer(b impl.Book, orders []impl.Order) bookAnswer {
	var a bookAnswer
	a.one, a.reply = wantOrdered(b, orders[0])
	a.all, a.replies = wantAllOrdered(b, orders)
	if at := slices.IndexFunc(b.Lasts, func(l impl.Last) bool { return l.Client == 1 }); at >= 0 {
		a.last = b.Lasts[at]
	}
	return a
}

func keepAnswer(a bookAnswer) bookAnswer {
	a.one, a.all, a.replies = keepBook(a.one), keepBook(a.all), slices.Clone(a.replies)
	a.reply.Page, a.last.Reply.Page = strings.Clone(a.reply.Page), strings.Clone(a.last.Reply.Page)
	for i := range a.replies {
		a.replies[i].Page = strings.Clone(a.replies[i].Page)
	}
	return a
}

func sameAnswer(a, b bookAnswer) bool {
	return sameBook(a.one, b.one) && a.reply == b.reply && sameBook(a.all, b.all) && slices.Equal(a.replies, b.replies) && a.last == b.last
}

func clearBook(b impl.Book) {
	for _, w := range b.Shelf {
		clear(w.Copies[:cap(w.Copies)])
	}
	clear(b.Shelf[:cap(b.Shelf)])
	clear(b.Lasts[:cap(b.Lasts)])
}

func memoryBooks() []impl.Book {
	var books []impl.Book
	for _, s := range memoryShelves() {
		books = append(books, impl.Book{Shelf: s, Lasts: aBook().Lasts}, impl.Book{Shelf: s})
	}
	return append(books, impl.Book{Shelf: threeWorks(), Lasts: []impl.Last{lastWith(1, 7, 0, "leaf"), lastWith(1, 8, 0, "root"), lastWith(0, 1, 0, "")}})
}

// memoryOrders is, of each deed, lists that begin with a new order of it, with
// one that was there, with an old one and with what is none.
func memoryOrders(t *testing.T) [][]impl.Order {
	var lists [][]impl.Order
	for _, line := range memoryLines() {
		for _, first := range [][2]int64{{2, 1}, {1, 6}, {1, 5}, {1, 4}, {4, 1}} {
			lists = append(lists, []impl.Order{order(t, first[0], first[1], line), order(t, 2, 2, "fetch oak 0.5.0"), order(t, 2, 2, "fetch oak 0.5.0"), order(t, 0, 1, line), order(t, 1, 5, line)})
		}
	}
	return lists
}

// Promise 21, of this chapter: arguments stay, their spare room too, and an
// answer is the same when they are changed behind it.
func TestBookKeepsItsArguments(t *testing.T) {
	for _, b := range memoryBooks() {
		for _, orders := range memoryOrders(t) {
			want := keepAnswer(wantBookAnswer(keepBook(b), orders))
			v := viewedBook(b)
			var given []impl.Order
			var rooms [][]byte
			for _, o := range orders {
				var room []byte
				o.Deed, room = viewedDeed(o.Deed)
				given, rooms = append(given, o), append(rooms, room)
			}
			given = append(given, impl.Order{Client: 3, Seq: 9}, impl.Order{Client: 2, Seq: 8})
			before, ordersBefore := v.shown(), slices.Clone(given)
			roomsBefore := joined(rooms)
			got := bookAnswerOf(v.book, given[:len(orders)])
			impl.BookOk(v.book)
			impl.OrderOk(given[0])
			if v.shown() != before || !slices.Equal(given, ordersBefore) || joined(rooms) != roomsBefore {
				t.Fatalf("%v of %s is written into: %s", orders, before, v.shown())
			}
			v.spoil()
			clear(given)
			for _, room := range rooms {
				for i := range room {
					room[i] = '#'
				}
			}
			if !sameAnswer(got, want) {
				t.Fatalf("%v of %v shares the memory of an argument: %v, not %v", orders, b, got, want)
			}
		}
	}
}

func joined(rooms [][]byte) string {
	text := ""
	for _, room := range rooms {
		text += string(room) + ";"
	}
	return text
}

// Promise 21, of this chapter: what is changed in an answer, or behind it in
// its spare room, is changed neither in the argument nor in another answer.
func TestBookAnswersAnewEachTime(t *testing.T) {
	for _, b := range memoryBooks() {
		for _, orders := range memoryOrders(t) {
			v := viewedBook(b)
			before := v.shown()
			first := bookAnswerOf(v.book, orders)
			want := keepAnswer(first)
			second := bookAnswerOf(v.book, orders)
			clearBook(first.one)
			if !sameBook(first.all, want.all) {
				t.Fatalf("%v: a change of Ordered's answer changes AllOrdered's: %v", orders, first.all)
			}
			clearBook(first.all)
			clear(first.replies[:cap(first.replies)])
			if v.shown() != before {
				t.Fatalf("%v: a change of an answer changes the argument: %s, not %s", orders, v.shown(), before)
			}
			if third := bookAnswerOf(v.book, orders); !sameAnswer(second, want) || !sameAnswer(third, want) {
				t.Fatalf("%v: a change of one answer changes another: %v, %v", orders, second, third)
			}
		}
	}
}

// checkListsApart changes one list of an answer after the other, its spare
// room too, and asks that those behind it are as they were.
func checkListsApart(t *testing.T, b impl.Book, replies []impl.Reply) {
	t.Helper()
	want, wantReplies := keepBook(b), slices.Clone(replies)
	for i := range b.Shelf {
		copies := b.Shelf[i].Copies[:cap(b.Shelf[i].Copies)]
		for k := range copies {
			copies[k] = aCopy(edition(8, 8, 8), "changed")
		}
		if !sameShelf(b.Shelf[i+1:], want.Shelf[i+1:]) || !slices.Equal(b.Lasts, want.Lasts) || !slices.Equal(replies, wantReplies) {
			t.Fatalf("a change of the Copies of %q changes another list: %v, %v", want.Shelf[i].Name, b, replies)
		}
	}
	clear(b.Shelf[:cap(b.Shelf)])
	if !slices.Equal(b.Lasts, want.Lasts) {
		t.Fatalf("a change of the Shelf changes the Lasts: %v", b.Lasts)
	}
	clear(b.Lasts[:cap(b.Lasts)])
	if !slices.Equal(replies, wantReplies) {
		t.Fatalf("a change of the Lasts changes the Replies: %v", replies)
	}
}

// Promise 21, of this chapter: no two lists of one answer share memory, not
// even where two lists of the argument do.
func TestBookListsShareNoMemory(t *testing.T) {
	copies := workOfLength(6).Copies
	shared := impl.Book{Shelf: []impl.Work{named("elm", 0, copies[:3]...), named("oak", 2, copies[:5]...), named("yew", 1, copies...)}, Lasts: lastsOf(0, 2)}
	for _, b := range append(memoryBooks(), shared) {
		for _, orders := range memoryOrders(t) {
			answer := bookAnswerOf(b, orders)
			checkListsApart(t, answer.one, nil)
			checkListsApart(t, answer.all, answer.replies)
		}
	}
}

// A text that an answer has twice, in its Reply and in its Last, is in memory
// of its own each time, and in the Copy, too.
func TestBookTextsShareNoMemory(t *testing.T) {
	got, reply := impl.Ordered(aBook(), order(t, 2, 1, "fetch oak 0.5.0"))
	again, replyAgain := impl.Ordered(got, order(t, 2, 1, "fetch oak 0.5.0"))
	last, _ := impl.LastOf(again, 2)
	texts := []string{got.Shelf[1].Copies[0].Page, got.Lasts[1].Reply.Page, reply.Page, again.Shelf[1].Copies[0].Page, again.Lasts[1].Reply.Page, replyAgain.Page, last.Reply.Page}
	for i, a := range texts {
		for k, b := range texts {
			if a != "root" || i != k && unsafe.StringData(a) == unsafe.StringData(b) {
				t.Errorf("text %d is %q, in the memory of text %d", i, a, k)
			}
		}
	}
}

func TestBookAnswerMayBeTheNextArgument(t *testing.T) {
	one, _ := impl.AllOrdered(aBook(), []impl.Order{order(t, 0, 1, "put oak 5.0.0 five 2"), order(t, 2, 1, "fetch oak 5.0.0")})
	kept := keepBook(one)
	for _, line := range bookLines() {
		for client := range int64(4) {
			checkOrdered(t, one, order(t, client, 6, line))
			checkAllOrdered(t, one, []impl.Order{order(t, client, 6, line), order(t, client, 7, "fetch oak 5.0.0")})
			if !sameBook(one, kept) {
				t.Fatalf("%q changes its argument: %v", line, one)
			}
		}
	}
}
