package tests

import (
	"fmt"
	"math"
	"regexp"
	"strconv"
	"strings"
	"testing"
	"unsafe"

	"loop.example/g00572/impl"
)

// The document's words once more, by another way than the program's.
var editionShape = regexp.MustCompile(`\A(0|[1-9][0-9]?)\.(0|[1-9][0-9]?)\.(0|[1-9][0-9]?)\z`)

func edition(major, minor, patch int64) impl.Edition {
	return impl.Edition{Major: major, Minor: minor, Patch: patch}
}

// editionsOf is every edition of these numbers in its three places.
func editionsOf(numbers ...int64) []impl.Edition {
	var list []impl.Edition
	for _, a := range numbers {
		for _, b := range numbers {
			for _, c := range numbers {
				list = append(list, edition(a, b, c))
			}
		}
	}
	return list
}

// sideNumbers is both sides of each limit, and the ends of all numbers.
func sideNumbers() []int64 {
	return []int64{math.MinInt64, -1, 0, 1, 9, 10, 99, 100, math.MaxInt64}
}

func wantPart(n int64) bool { return n >= 0 && n <= 99 }

func wantEdition(e impl.Edition) bool {
	return wantPart(e.Major) && wantPart(e.Minor) && wantPart(e.Patch)
}

func wantShown(e impl.Edition) string {
	if !wantEdition(e) {
		return ""
	}
	return fmt.Sprintf("%d.%d.%d", e.Major, e.Minor, e.Patch)
}

func wantRead(s string) (impl.Edition, bool) {
	m := editionShape.FindStringSubmatch(s)
	if m == nil {
		return impl.Edition{}, false
	}
	var n [3]int64
	for i := range n {
		k, _ := strconv.Atoi(m[i+1])
		n[i] = int64(k)
	}
	return edition(n[0], n[1], n[2]), true
}

func wantOlder(a, b impl.Edition) bool {
	return a.Major < b.Major ||
		a.Major == b.Major && a.Minor < b.Minor ||
		a.Major == b.Major && a.Minor == b.Minor && a.Patch < b.Patch
}

func checkRead(t *testing.T, s string) {
	t.Helper()
	want, wantIs := wantRead(s)
	if got, is := impl.ReadEdition(s); got != want || is != wantIs {
		t.Fatalf("ReadEdition(%q) is %v, %v, not %v, %v", s, got, is, want, wantIs)
	}
}

func TestEditionOkAtEachLimit(t *testing.T) {
	for _, c := range []struct {
		n    int64
		want bool
	}{
		{math.MinInt64, false}, {-256, false}, {-100, false}, {-99, false}, {-1, false}, {0, true}, {1, true}, {9, true}, {10, true}, {98, true},
		{99, true}, {100, false}, {101, false}, {256, false}, {1 << 32, false}, {math.MaxInt64, false},
	} {
		for _, other := range []int64{0, 5, 99} {
			for _, e := range []impl.Edition{edition(c.n, other, other), edition(other, c.n, other), edition(other, other, c.n)} {
				if impl.EditionOk(e) != c.want {
					t.Errorf("EditionOk(%v) is %v", e, !c.want)
				}
			}
		}
	}
	for _, e := range editionsOf(sideNumbers()...) {
		if want := wantEdition(e); impl.EditionOk(e) != want {
			t.Errorf("EditionOk(%v) is %v", e, !want)
		}
	}
}

func TestShowEditionAsTold(t *testing.T) {
	for _, c := range []struct {
		e    impl.Edition
		want string
	}{
		{edition(0, 0, 0), "0.0.0"}, {edition(1, 2, 30), "1.2.30"}, {edition(9, 10, 99), "9.10.99"}, {edition(99, 99, 99), "99.99.99"},
		{edition(1, 0, 0), "1.0.0"}, {edition(0, 1, 0), "0.1.0"}, {edition(0, 0, 1), "0.0.1"}, {edition(12, 34, 56), "12.34.56"},
		{edition(-1, 0, 0), ""}, {edition(0, -1, 0), ""}, {edition(0, 0, -1), ""},
		{edition(100, 0, 0), ""}, {edition(0, 100, 0), ""}, {edition(0, 0, 100), ""},
		{edition(math.MaxInt64, 1, 1), ""}, {edition(1, math.MinInt64, 1), ""}, {edition(1, 1, math.MaxInt64), ""},
	} {
		if got := impl.ShowEdition(c.e); got != c.want {
			t.Errorf("ShowEdition(%v) is %q, not %q", c.e, got, c.want)
		}
	}
}

func TestReadEditionAsTold(t *testing.T) {
	for s, want := range map[string]impl.Edition{
		"0.0.0": edition(0, 0, 0), "1.2.30": edition(1, 2, 30), "9.10.99": edition(9, 10, 99), "99.99.99": edition(99, 99, 99),
		"10.0.9": edition(10, 0, 9), "3.2.1": edition(3, 2, 1),
	} {
		if got, is := impl.ReadEdition(s); got != want || !is {
			t.Errorf("ReadEdition(%q) is %v, %v", s, got, is)
		}
	}
}

func TestReadEditionOfWhatIsNoneShown(t *testing.T) {
	bad := []string{
		"", ".", "..", "...", "....",
		"1", "1.2", "1.2.3.4", "1.2.3.", ".1.2.3", "1.2.3.4.5", "1.2.", ".1.2", "1.2.3..", "1.2.3.x", "1.2.3.4x",
		"1..3", ".2.3", "..3", "1..", ".2.", "1...3", "1..2.3",
		"01.2.3", "1.02.3", "1.2.03", "00.0.0", "0.00.0", "0.0.00", "001.2.3", "1.2.099", "1.2.000000003",
		"-1.2.3", "1.-2.3", "1.2.-3", "-0.2.3", "1.-0.3", "1.2.-0", "+1.2.3", "1.+2.3", "1.2.+3", "+0.0.0", "0.0.+0", "--1.2.3", "1.2.-", "-.-.-", "1.2.+",
		" 1.2.3", "1.2.3 ", "1 .2.3", "1. 2.3", "1.2. 3", "1.2 .3", " ", "1 2 3", "1.2.3\n", "\n1.2.3", "1.2.3\t", "1.2.3\x00", "\x001.2.3",
		"a.2.3", "1.b.3", "1.2.c", "1a.2.3", "1.2.3a", "1,2,3", "1.2,3", "1:2:3", "1.2/3", "1_0.2.3", "1.2.1_0", "0x1.2.3", "1.0b1.3", "1.2.0o7", "1e1.2.3", "1.2.1e0",
		"\uff11.2.3", "1.2.\u0663", "1\u30022\u30023", "\xff.2.3", "1.2.\xff",
		"100.2.3", "1.100.3", "1.2.100", "101.0.0", "110.0.0", "199.0.0", "999.0.0", "0.0.356", "256.0.0", "0.256.0",
		"1.2.999999999", "999999999.2.3", "1.2.1000000000", "1.2.4294967299", "4294967297.2.3", "1.2.18446744073709551619", "18446744073709551617.2.3",
		"1.2.9223372036854775807", "1.2.9223372036854775808", "-9223372036854775808.2.3", "1.-9223372036854775809.3",
		"1.2." + strings.Repeat("9", 400), "1.2." + strings.Repeat("0", 400) + "3", strings.Repeat("1.", 5000), strings.Repeat(".", 5000), strings.Repeat("1", 5000),
	}
	for _, s := range bad {
		if e, is := impl.ReadEdition(s); is || e != (impl.Edition{}) {
			t.Errorf("ReadEdition(%q) is %v, %v", s, e, is)
		}
	}
}

func TestReadEditionOfAllShapes(t *testing.T) {
	for _, s := range wordsOf("019.-", 8) {
		checkRead(t, s)
	}
	for _, s := range wordsOf("1.+ 0a", 6) {
		checkRead(t, s)
	}
}

func TestReadEditionAtEveryByte(t *testing.T) {
	for _, s := range []string{"1.2.3", "12.34.56", "0.0.0", "99.9.10"} {
		for at := 0; at <= len(s); at++ {
			for i := range 256 {
				c := string([]byte{byte(i)})
				checkRead(t, s[:at]+c+s[at:])
				if at < len(s) {
					checkRead(t, s[:at]+c+s[at+1:])
				}
			}
			if at < len(s) {
				checkRead(t, s[:at]+s[at+1:])
			}
		}
	}
}

// Promise 2, its second half, at each corner.
func TestReadEditionOfShowEditionAtCorners(t *testing.T) {
	for _, e := range editionsOf(0, 9, 10, 99) {
		shown := impl.ShowEdition(e)
		if want := wantShown(e); shown != want {
			t.Errorf("ShowEdition(%v) is %q, not %q", e, shown, want)
		}
		if got, is := impl.ReadEdition(shown); got != e || !is {
			t.Errorf("ReadEdition(%q) is %v, %v", shown, got, is)
		}
	}
}

// Promise 2, its second half, of every right edition.
func TestReadEditionOfShowEdition(t *testing.T) {
	for k := range int64(1000000) {
		e := edition(k/10000, k/100%100, k%100)
		if got, is := impl.ReadEdition(impl.ShowEdition(e)); got != e || !is {
			t.Fatalf("ReadEdition(%q) is %v, %v", impl.ShowEdition(e), got, is)
		}
	}
}

func TestOlderAsTold(t *testing.T) {
	for _, c := range []struct{ a, b impl.Edition }{
		// The first numbers decide.
		{edition(1, 0, 0), edition(2, 0, 0)}, {edition(1, 99, 99), edition(2, 0, 0)}, {edition(0, 9, 0), edition(1, 0, 0)}, {edition(9, 0, 0), edition(10, 0, 0)},
		{edition(1, 2, 3), edition(3, 2, 1)}, {edition(0, 5, 5), edition(99, 5, 5)},
		// The first ones are alike, the second decide.
		{edition(1, 1, 0), edition(1, 2, 0)}, {edition(1, 1, 99), edition(1, 2, 0)}, {edition(0, 9, 5), edition(0, 10, 1)}, {edition(99, 0, 99), edition(99, 99, 0)},
		// Only the third decide.
		{edition(1, 1, 1), edition(1, 1, 2)}, {edition(0, 0, 0), edition(0, 0, 99)}, {edition(7, 8, 9), edition(7, 8, 10)}, {edition(99, 99, 98), edition(99, 99, 99)},
		// Ones that are not EditionOk are in the order, too.
		{edition(-1, 0, 0), edition(0, 0, 0)}, {edition(99, 99, 99), edition(100, 0, 0)}, {edition(0, -2, 0), edition(0, -1, 0)}, {edition(0, 0, 100), edition(0, 0, 101)},
		{edition(math.MinInt64, 0, 0), edition(math.MaxInt64, 0, 0)}, {edition(1, math.MinInt64, 1), edition(1, math.MaxInt64, 0)}, {edition(1, 1, math.MinInt64), edition(1, 1, math.MaxInt64)},
		{edition(math.MinInt64, 9, 9), edition(1, 0, 0)}, {edition(-1, 9, 9), edition(math.MaxInt64, 0, 0)},
	} {
		if !impl.Older(c.a, c.b) || impl.Older(c.b, c.a) {
			t.Errorf("Older of %v and %v is %v, the other way %v", c.a, c.b, impl.Older(c.a, c.b), impl.Older(c.b, c.a))
		}
	}
}

// Promise 2, its first half.
func TestOlderIsAnOrder(t *testing.T) {
	list := editionsOf(sideNumbers()...)
	for _, a := range list {
		if impl.Older(a, a) {
			t.Fatalf("%v is older than itself", a)
		}
		for _, b := range list {
			ab, ba := impl.Older(a, b), impl.Older(b, a)
			if ab && ba {
				t.Fatalf("%v and %v are older both ways", a, b)
			}
			if a != b && !ab && !ba {
				t.Fatalf("%v and %v are unlike, and older no way", a, b)
			}
			if want := wantOlder(a, b); ab != want {
				t.Fatalf("Older of %v and %v is %v", a, b, ab)
			}
		}
	}
}

func TestOlderIsPassedOn(t *testing.T) {
	passedOn := func(list []impl.Edition) {
		for _, a := range list {
			for _, b := range list {
				if !impl.Older(a, b) {
					continue
				}
				for _, c := range list {
					if impl.Older(b, c) && !impl.Older(a, c) {
						t.Fatalf("%v, %v, %v: older is not passed on", a, b, c)
					}
				}
			}
		}
	}
	passedOn(editionsOf(0, 9, 10, 99))
	passedOn(editionsOf(math.MinInt64, -1, 0, 100, math.MaxInt64))
}

func TestFitsAsTold(t *testing.T) {
	for _, c := range []struct {
		have, want impl.Edition
		is         bool
	}{
		// Of one Major: the same, newer, older.
		{edition(1, 2, 3), edition(1, 2, 3), true}, {edition(0, 0, 0), edition(0, 0, 0), true}, {edition(99, 99, 99), edition(99, 99, 99), true},
		{edition(1, 2, 4), edition(1, 2, 3), true}, {edition(1, 3, 0), edition(1, 2, 3), true}, {edition(1, 10, 0), edition(1, 9, 99), true}, {edition(99, 99, 99), edition(99, 0, 0), true},
		{edition(1, 2, 2), edition(1, 2, 3), false}, {edition(1, 1, 99), edition(1, 2, 0), false}, {edition(1, 9, 99), edition(1, 10, 0), false}, {edition(0, 0, 0), edition(0, 0, 1), false},
		// The Majors are unlike.
		{edition(2, 0, 0), edition(1, 0, 0), false}, {edition(2, 5, 5), edition(1, 0, 0), false}, {edition(1, 5, 5), edition(2, 0, 0), false}, {edition(1, 0, 0), edition(0, 0, 0), false}, {edition(99, 0, 0), edition(98, 0, 0), false},
		// One of the two is not EditionOk, or both are not.
		{edition(1, 2, 100), edition(1, 2, 3), false}, {edition(1, 100, 0), edition(1, 2, 3), false}, {edition(1, 2, 3), edition(1, 2, -1), false}, {edition(1, 2, 3), edition(1, -1, 0), false},
		{edition(1, 2, math.MaxInt64), edition(1, 2, 3), false}, {edition(1, 2, 3), edition(1, math.MinInt64, 3), false},
		{edition(100, 2, 3), edition(100, 2, 3), false}, {edition(-1, 2, 3), edition(-1, 2, 3), false}, {edition(1, 2, 100), edition(1, 2, 100), false}, {edition(1, -1, 0), edition(1, -1, 0), false},
	} {
		if impl.Fits(c.have, c.want) != c.is {
			t.Errorf("Fits of %v and %v is %v", c.have, c.want, !c.is)
		}
	}
}

func TestFitsOfAll(t *testing.T) {
	list := editionsOf(sideNumbers()...)
	for _, have := range list {
		for _, want := range list {
			is := wantEdition(have) && wantEdition(want) && have.Major == want.Major && !wantOlder(have, want)
			if impl.Fits(have, want) != is {
				t.Fatalf("Fits of %v and %v is %v", have, want, !is)
			}
		}
	}
}

// Promise 21, of this chapter: each one answers at every text and number.
func TestEditionsAnswerAtEveryArgument(t *testing.T) {
	for _, s := range someTexts() {
		checkRead(t, s)
		checkRead(t, s+".0.0")
		checkRead(t, "0."+s+".0")
		checkRead(t, "0.0."+s)
	}
	for _, e := range editionsOf(append(sideNumbers(), -100, 101, 256, 1<<31, 1<<32, -1<<32)...) {
		if got, want := impl.ShowEdition(e), wantShown(e); got != want {
			t.Fatalf("ShowEdition(%v) is %q, not %q", e, got, want)
		}
	}
}

// Promise 21, of this chapter: only texts could be written into or shared.
func TestReadEditionKeepsItsArgument(t *testing.T) {
	for _, s := range []string{"1.2.30", "99.0.9", "01.2.3", "1.2.3.4", "1.2.100", "A.B.C"} {
		room := []byte(s + "SPARE_ROOM")
		view := unsafe.String(&room[0], len(s))
		got, is := impl.ReadEdition(view)
		if string(room) != s+"SPARE_ROOM" {
			t.Errorf("%q was written into: %q", s, room)
		}
		if want, wantIs := wantRead(s); got != want || is != wantIs {
			t.Errorf("ReadEdition(%q) is %v, %v", s, got, is)
		}
	}
}

func TestShowEditionIsNewEachTime(t *testing.T) {
	e := edition(1, 2, 30)
	first, second := impl.ShowEdition(e), impl.ShowEdition(e)
	if unsafe.StringData(first) == unsafe.StringData(second) {
		t.Error("two answers share their memory")
	}
}
