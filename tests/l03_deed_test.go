package tests

import (
	"math"
	"regexp"
	"strconv"
	"strings"
	"testing"
	"unsafe"

	"loop.example/g00572/impl"
)

// The document's words once more, by another way than the program's: the
// lines are the document's own, and each word of capitals is a shape.
var deedLines = []struct {
	kind int64
	line string
}{
	{1, "claim NAME WHO"}, {2, "put NAME EDITION PAGE WHO"}, {3, "hide NAME EDITION WHO"},
	{4, "show NAME EDITION WHO"}, {5, "fetch NAME EDITION"}, {6, "give NAME WHO MAJOR"},
}

var deedWordShapes = strings.NewReplacer(
	"NAME", `(?P<name>[a-z]+(?:-[a-z]+)*)`,
	"EDITION", `(?P<edition>[0-9]+\.[0-9]+\.[0-9]+)`,
	"PAGE", `(?P<page>-|[a-z0-9]{1,12})`,
	"WHO", `(?P<who>[0-3])`,
	"MAJOR", `(?P<major>0|[1-9][0-9]?)`,
)

var deedShapes = func() []*regexp.Regexp {
	var list []*regexp.Regexp
	for _, c := range deedLines {
		list = append(list, regexp.MustCompile(`\A`+deedWordShapes.Replace(c.line)+`\z`))
	}
	return list
}()

func wantReadDeed(s string) (impl.Deed, bool) {
	for i, shape := range deedShapes {
		m := shape.FindStringSubmatch(s)
		if m == nil {
			continue
		}
		d := impl.Deed{Kind: deedLines[i].kind}
		right := true
		for k, part := range shape.SubexpNames() {
			switch n, _ := strconv.ParseInt(m[k], 10, 64); part {
			case "name":
				d.Name = m[k]
				right = right && wantName(m[k])
			case "edition":
				e, is := wantRead(m[k])
				d.Edition = e
				right = right && is
			case "page":
				d.Page = strings.TrimPrefix(m[k], "-")
			case "who":
				d.Who = n
			case "major":
				d.Edition.Major = n
			}
		}
		if right {
			return d, true
		}
	}
	return impl.Deed{}, false
}

func wantDeed(d impl.Deed) bool {
	name, right := wantName(d.Name), wantEdition(d.Edition)
	who := d.Who == 0 || d.Who == 1 || d.Who == 2 || d.Who == 3
	switch d.Kind {
	case 1:
		return name && who && d.Edition == edition(0, 0, 0) && d.Page == ""
	case 2:
		return name && who && right && wantPage(d.Page)
	case 3, 4:
		return name && who && right && d.Page == ""
	case 5:
		return name && right && d.Page == "" && d.Who == 0
	case 6:
		return name && who && right && d.Edition.Minor == 0 && d.Edition.Patch == 0 && d.Page == ""
	}
	return false
}

// wantShownDeed is shown by the document's lines, where wantDeed asks so.
func wantShownDeed(d impl.Deed) string {
	if !wantDeed(d) {
		return ""
	}
	page := d.Page
	if page == "" {
		page = "-"
	}
	return strings.NewReplacer("NAME", d.Name, "EDITION", wantShown(d.Edition), "PAGE", page,
		"WHO", strconv.Itoa(int(d.Who)), "MAJOR", strconv.Itoa(int(d.Edition.Major))).Replace(deedLines[d.Kind-1].line)
}

func checkReadDeed(t *testing.T, s string) {
	t.Helper()
	want, wantIs := wantReadDeed(s)
	if got, is := impl.ReadDeed(s); got != want || is != wantIs {
		t.Fatalf("ReadDeed(%q) is %v, %v, not %v, %v", s, got, is, want, wantIs)
	}
}

func checkNoDeed(t *testing.T, s string) {
	t.Helper()
	if d, is := impl.ReadDeed(s); is || d != (impl.Deed{}) {
		t.Errorf("ReadDeed(%q) is %v, %v", s, d, is)
	}
}

// aDeedOf is a right one of each kind, with nothing of it zero that is told.
func aDeedOf(kind int64) impl.Deed {
	d := impl.Deed{Kind: kind, Name: "oak"}
	switch kind {
	case 1:
		d.Who = 1
	case 2:
		d.Edition, d.Page, d.Who = edition(1, 2, 30), "leaf", 2
	case 3, 4:
		d.Edition, d.Who = edition(1, 2, 30), 3
	case 5:
		d.Edition = edition(1, 2, 30)
	case 6:
		d.Edition, d.Who = edition(3, 0, 0), 1
	}
	return d
}

// deedsOf is every deed of these parts and of kinds from -1 to 8.
func deedsOf(names []string, editions []impl.Edition, pages []string, whos []int64) []impl.Deed {
	var list []impl.Deed
	for kind := int64(-1); kind <= 8; kind++ {
		for _, name := range names {
			for _, e := range editions {
				for _, page := range pages {
					for _, who := range whos {
						list = append(list, impl.Deed{Kind: kind, Name: name, Edition: e, Page: page, Who: who})
					}
				}
			}
		}
	}
	return list
}

// rightDeeds is the right ones of all kinds, at both ends of each part and
// between them.
func rightDeeds() []impl.Deed {
	names := []string{"a", "z", "oak", "a-b", "claim", "put", "abcdefgh", "a-b-c-de"}
	editions := append(editionsOf(0, 9, 10, 99), edition(1, 2, 30))
	pages := []string{"", "a", "0", "leaf", "12", "abcdefghijkl", "012345678901"}
	var list []impl.Deed
	for _, d := range deedsOf(names, editions, pages, []int64{0, 1, 2, 3}) {
		if wantDeed(d) {
			list = append(list, d)
		}
	}
	return list
}

func TestDeedKindsAsTold(t *testing.T) {
	kinds := [6]int64{impl.DdClaim, impl.DdPut, impl.DdHide, impl.DdShow, impl.DdFetch, impl.DdGive}
	if kinds != [6]int64{1, 2, 3, 4, 5, 6} {
		t.Error(kinds)
	}
}

func TestDeedOkOfKinds(t *testing.T) {
	for kind := int64(1); kind <= 6; kind++ {
		if d := aDeedOf(kind); !impl.DeedOk(d) {
			t.Errorf("DeedOk(%v) is false", d)
		}
	}
	for _, kind := range []int64{math.MinInt64, -1, 0, 7, 8, 257, 1<<32 + 1, math.MaxInt64} {
		for right := int64(1); right <= 6; right++ {
			d := aDeedOf(right)
			d.Kind = kind
			if impl.DeedOk(d) {
				t.Errorf("DeedOk(%v) is true", d)
			}
		}
	}
	if impl.DeedOk(impl.Deed{}) {
		t.Error("the zero Deed is right")
	}
}

func TestDeedOkOfNames(t *testing.T) {
	for kind := int64(1); kind <= 6; kind++ {
		d := aDeedOf(kind)
		for _, d.Name = range []string{"a", "z", "a-b", "abcdefgh", "a-b-c-de"} {
			if !impl.DeedOk(d) {
				t.Errorf("DeedOk(%v) is false", d)
			}
		}
		for _, d.Name = range []string{"", "-", "-a", "a-", "a--b", "abcdefghi", "Oak", "a_b", "a0", "a b", "oak ", "\xff"} {
			if impl.DeedOk(d) {
				t.Errorf("DeedOk(%v) is true", d)
			}
		}
	}
}

func TestDeedOkOfEditions(t *testing.T) {
	for _, kind := range []int64{2, 3, 4, 5} {
		d := aDeedOf(kind)
		for _, d.Edition = range editionsOf(sideNumbers()...) {
			if want := wantEdition(d.Edition); impl.DeedOk(d) != want {
				t.Errorf("DeedOk(%v) is %v", d, !want)
			}
		}
	}
}

func TestDeedOkOfPages(t *testing.T) {
	d := aDeedOf(2)
	for _, d.Page = range []string{"", "a", "0", "a1", "abcdefghijkl", "012345678901"} {
		if !impl.DeedOk(d) {
			t.Errorf("DeedOk(%v) is false", d)
		}
	}
	for _, d.Page = range []string{"-", "A", "a-b", "a b", " ", "*", "abcdefghijklm", "0123456789012", "\xff", "leaf\n"} {
		if impl.DeedOk(d) {
			t.Errorf("DeedOk(%v) is true", d)
		}
	}
}

func TestDeedOkOfWho(t *testing.T) {
	for _, kind := range []int64{1, 2, 3, 4, 6} {
		d := aDeedOf(kind)
		for _, d.Who = range []int64{0, 1, 2, 3} {
			if !impl.DeedOk(d) {
				t.Errorf("DeedOk(%v) is false", d)
			}
		}
		for _, d.Who = range []int64{math.MinInt64, -4, -1, 4, 5, 256, 1 << 32, math.MaxInt64} {
			if impl.DeedOk(d) {
				t.Errorf("DeedOk(%v) is true", d)
			}
		}
	}
}

func TestDeedOkOfTheMajorGiven(t *testing.T) {
	d := aDeedOf(6)
	for _, d.Edition.Major = range []int64{0, 1, 3, 4, 98, 99} {
		if !impl.DeedOk(d) {
			t.Errorf("DeedOk(%v) is false", d)
		}
	}
	for _, d.Edition.Major = range []int64{math.MinInt64, -1, 100, 256, math.MaxInt64} {
		if impl.DeedOk(d) {
			t.Errorf("DeedOk(%v) is true", d)
		}
	}
}

func TestDeedOkOfWhatIsNotTold(t *testing.T) {
	with := func(kind int64, change func(*impl.Deed)) {
		t.Helper()
		d := aDeedOf(kind)
		change(&d)
		if impl.DeedOk(d) || impl.ShowDeed(d) != "" {
			t.Errorf("DeedOk(%v) is %v, and it is shown as %q", d, impl.DeedOk(d), impl.ShowDeed(d))
		}
	}
	for _, kind := range []int64{1, 3, 4, 5, 6} {
		for _, page := range []string{"leaf", "0", "-", "A"} {
			with(kind, func(d *impl.Deed) { d.Page = page })
		}
	}
	for _, n := range []int64{math.MinInt64, -1, 1, 3, 99, 100, math.MaxInt64} {
		with(1, func(d *impl.Deed) { d.Edition.Major = n })
		with(1, func(d *impl.Deed) { d.Edition.Minor = n })
		with(1, func(d *impl.Deed) { d.Edition.Patch = n })
		with(5, func(d *impl.Deed) { d.Who = n })
		with(6, func(d *impl.Deed) { d.Edition.Minor = n })
		with(6, func(d *impl.Deed) { d.Edition.Patch = n })
	}
}

func TestShowDeedAsTold(t *testing.T) {
	for _, c := range []struct {
		d    impl.Deed
		want string
	}{
		{impl.Deed{Kind: impl.DdClaim, Name: "oak", Who: 1}, "claim oak 1"},
		{impl.Deed{Kind: impl.DdClaim, Name: "abcdefgh"}, "claim abcdefgh 0"},
		{impl.Deed{Kind: impl.DdPut, Name: "oak", Edition: edition(1, 0, 0), Page: "leaf", Who: 2}, "put oak 1.0.0 leaf 2"},
		{impl.Deed{Kind: impl.DdPut, Name: "oak", Edition: edition(1, 0, 0), Who: 2}, "put oak 1.0.0 - 2"},
		{impl.Deed{Kind: impl.DdPut, Name: "a"}, "put a 0.0.0 - 0"},
		{impl.Deed{Kind: impl.DdPut, Name: "a-b", Edition: edition(99, 99, 99), Page: "012345678901", Who: 3}, "put a-b 99.99.99 012345678901 3"},
		{impl.Deed{Kind: impl.DdHide, Name: "oak", Edition: edition(1, 0, 0)}, "hide oak 1.0.0 0"},
		{impl.Deed{Kind: impl.DdShow, Name: "a-b", Edition: edition(0, 0, 1), Who: 3}, "show a-b 0.0.1 3"},
		{impl.Deed{Kind: impl.DdFetch, Name: "oak", Edition: edition(1, 2, 3)}, "fetch oak 1.2.3"},
		{impl.Deed{Kind: impl.DdGive, Name: "oak", Who: 1, Edition: edition(3, 0, 0)}, "give oak 1 3"},
		{impl.Deed{Kind: impl.DdGive, Name: "oak", Who: 3, Edition: edition(99, 0, 0)}, "give oak 3 99"},
		{impl.Deed{Kind: impl.DdGive, Name: "oak"}, "give oak 0 0"},
	} {
		if got := impl.ShowDeed(c.d); got != c.want {
			t.Errorf("ShowDeed(%v) is %q, not %q", c.d, got, c.want)
		}
		if got, is := impl.ReadDeed(c.want); got != c.d || !is {
			t.Errorf("ReadDeed(%q) is %v, %v, not %v", c.want, got, is, c.d)
		}
	}
}

func TestShowDeedOfWhatIsNotOk(t *testing.T) {
	for _, d := range []impl.Deed{
		{},
		{Name: "oak"},
		{Kind: 7, Name: "oak"},
		{Kind: -1, Name: "oak", Who: 1},
		{Kind: impl.DdClaim},
		{Kind: impl.DdClaim, Name: "Oak"},
		{Kind: impl.DdClaim, Name: "oak", Who: 4},
		{Kind: impl.DdClaim, Name: "oak", Who: -1},
		{Kind: impl.DdPut, Name: "oak", Edition: edition(1, 0, 100)},
		{Kind: impl.DdPut, Name: "oak", Page: "-"},
		{Kind: impl.DdPut, Name: "oak", Page: "A"},
		{Kind: impl.DdHide, Name: "oak", Edition: edition(-1, 0, 0)},
		{Kind: impl.DdShow, Name: "oak", Who: 4},
		{Kind: impl.DdFetch, Name: "oak", Who: 1},
		{Kind: impl.DdFetch, Name: "a--b"},
		{Kind: impl.DdGive, Name: "oak", Edition: edition(100, 0, 0)},
		{Kind: impl.DdGive, Name: "oak", Edition: edition(1, 1, 0)},
	} {
		if got := impl.ShowDeed(d); got != "" {
			t.Errorf("ShowDeed(%v) is %q", d, got)
		}
	}
}

// Promise 3.
func TestReadDeedOfShowDeedIsTheDeed(t *testing.T) {
	seen := map[string]impl.Deed{}
	kinds := map[int64]int{}
	for _, d := range rightDeeds() {
		s := impl.ShowDeed(d)
		if got, is := impl.ReadDeed(s); got != d || !is {
			t.Fatalf("ReadDeed of ShowDeed, %q, is %v, %v, not %v", s, got, is, d)
		}
		if before, is := seen[s]; is {
			t.Fatalf("%q is shown of %v and of %v", s, before, d)
		}
		seen[s] = d
		kinds[d.Kind]++
	}
	if len(kinds) != 6 {
		t.Fatalf("the deeds are of these kinds: %v", kinds)
	}
}

func TestReadDeedOfShowDeedOfEveryPart(t *testing.T) {
	check := func(d impl.Deed) {
		t.Helper()
		if got, is := impl.ReadDeed(impl.ShowDeed(d)); got != d || !is {
			t.Fatalf("ReadDeed(%q) is %v, %v, not %v", impl.ShowDeed(d), got, is, d)
		}
	}
	for kind := int64(1); kind <= 6; kind++ {
		for n := 1; n <= 8; n++ {
			d := aDeedOf(kind)
			d.Name = "abcdefgh"[:n]
			check(d)
		}
	}
	for n := range 13 {
		d := aDeedOf(2)
		d.Page = "a0b1c2d3e4f5"[:n]
		check(d)
	}
	for n := range int64(100) {
		d := aDeedOf(6)
		d.Edition.Major = n
		check(d)
		for _, kind := range []int64{2, 3, 4, 5} {
			d := aDeedOf(kind)
			for _, d.Edition = range []impl.Edition{edition(n, 0, 0), edition(0, n, 0), edition(0, 0, n)} {
				check(d)
			}
		}
	}
}

// Promise 3, the other way round.
func TestShowDeedOfReadDeedIsTheText(t *testing.T) {
	texts := []string{
		"claim oak 0", "claim a 3", "claim abcdefgh 1", "put oak 0.0.0 - 0", "put oak 99.99.99 abcdefghijkl 3", "put a-b 1.20.3 0 1", "put put 1.2.3 put 1",
		"hide oak 0.0.0 0", "hide abcdefgh 99.99.99 3", "show a 0.0.0 0", "show show 99.99.99 3", "fetch a 0.0.0", "fetch abcdefgh 99.99.99",
		"give oak 0 0", "give oak 3 99", "give abcdefgh 1 10", "give a-b 2 4",
	}
	for _, d := range rightDeeds() {
		texts = append(texts, wantShownDeed(d))
	}
	for _, s := range texts {
		d, is := impl.ReadDeed(s)
		if got := impl.ShowDeed(d); !is || got != s || !impl.DeedOk(d) {
			t.Fatalf("ReadDeed(%q) is %v, %v, and shown %q", s, d, is, got)
		}
	}
}

// The texts of this test are right ones of each kind with one word more or
// less, or one word that is none.
func TestReadDeedByWords(t *testing.T) {
	for kind := int64(1); kind <= 6; kind++ {
		words := strings.Split(wantShownDeed(aDeedOf(kind)), " ")
		for i := range words {
			checkNoDeed(t, strings.Join(words[:i], " "))
			checkNoDeed(t, strings.Join(words[i+1:], " "))
			less := append(append([]string{}, words[:i]...), words[i+1:]...)
			checkNoDeed(t, strings.Join(less, " "))
			for _, more := range []string{words[i], "", "0", "1", "-", "oak", "1.2.3", "leaf", "claim"} {
				ahead := append(append(append([]string{}, words[:i]...), more), words[i:]...)
				checkNoDeed(t, strings.Join(ahead, " "))
				checkNoDeed(t, strings.Join(append(append([]string{}, words...), more), " "))
			}
			for _, other := range []string{"", "what", "Claim", "GIVE", "-1", "4", "01", "00", "+1", "-0", "100", "1.2", "1.2.3.4", "01.2.3", "1.2.100", "1.-2.3",
				"--", "-a", "a-", "a--b", "A", "abcdefghi", "abcdefghijklm", "a_b", "\t", "1\n", "\xff", "1000000000", "4294967296", "9223372036854775808"} {
				instead := append([]string{}, words...)
				instead[i] = other
				checkReadDeed(t, strings.Join(instead, " "))
			}
		}
		for other := int64(1); other <= 6; other++ {
			instead := append([]string{strings.Fields(deedLines[other-1].line)[0]}, words[1:]...)
			checkReadDeed(t, strings.Join(instead, " "))
		}
	}
}

func TestReadDeedByBlanks(t *testing.T) {
	for kind := int64(1); kind <= 6; kind++ {
		s := wantShownDeed(aDeedOf(kind))
		for _, gap := range []string{"  ", "   ", "\t", "\n", "\r", "\x00", "\u00a0", ",", "", " \t", "_"} {
			checkNoDeed(t, strings.Replace(s, " ", gap, 1))
			checkNoDeed(t, strings.ReplaceAll(s, " ", gap))
			last := strings.LastIndex(s, " ")
			checkNoDeed(t, s[:last]+gap+s[last+1:])
		}
		for _, end := range []string{" ", "  ", "\n", "\r\n", "\t", "\x00", ".", "-", "a"} {
			checkNoDeed(t, end+s)
			checkNoDeed(t, s+end)
			checkNoDeed(t, end+s+end)
		}
	}
}

func TestReadDeedOfWhatIsNoneShown(t *testing.T) {
	for _, s := range []string{
		"", " ", "  ", "-", "claim", "put", "hide", "show", "fetch", "give", "claim ", "what", "what oak 1", "Claim oak 1", "claims oak 1", "clai oak 1", "1 oak 1",
		"claim oak", "claim 1", "claim oak 1 1", "claim oak 1.0.0 1",
		"claim Oak 1", "claim  1", "claim - 1", "claim -a 1", "claim a- 1", "claim a--b 1", "claim abcdefghi 1", "claim a_b 1", "claim 1 1",
		"claim oak -1", "claim oak 4", "claim oak 10", "claim oak 01", "claim oak 00", "claim oak +1", "claim oak -0", "claim oak x", "claim oak -", "claim oak 1.0", "claim oak 0x1",
		"claim oak 999999999", "claim oak 1000000000", "claim oak 4294967297", "claim oak 18446744073709551617",
		"put oak 1.0.0 2", "put oak 1.0.0  2", "put oak 1.0.0 leaf", "put oak 1.0.0 leaf 2 2", "put oak leaf 2", "put oak 1.0.0 A 1", "put oak 1.0.0 a-b 1", "put oak 1.0.0 -- 1",
		"put oak 1.0.0 abcdefghijklm 1", "put oak 1.0.0 _ 1", "put oak 1.0 leaf 2", "put oak 01.0.0 leaf 2", "put oak 1.0.100 leaf 2", "put oak 1.0.0 leaf 4", "put oak - leaf 2", "put - 1.0.0 leaf 2",
		"put oak 1.0.0 leaf 02", "put oak 1.0.0 leaf -2", "put oak 1.0.0 leaf -", "put oak 1.0.0 2 leaf",
		"hide oak 1.0.0", "hide oak 0", "hide oak 1.0.0 - 0", "hide oak 1.0.0 leaf 0", "hide oak 1.0.0 4", "hide oak 1.0.0 00", "hide oak 1.0.0.0 0", "hide oak 0 1.0.0",
		"show oak 1.0.0", "show oak 0", "show oak 1.0.0 - 0", "show oak 1.0.0 leaf 0", "show oak 1.0.0 4", "show oak 1.0.0 +0", "show oak 1.0 0", "show oak 0 1.0.0",
		"fetch oak", "fetch 1.2.3", "fetch oak 1.2", "fetch oak 1.2.3 0", "fetch oak 1.2.3 -", "fetch oak 1.2.-3", "fetch oak 100.2.3", "fetch oak 1", "fetch oak -",
		"give oak 1", "give oak 1 3 0", "give oak 4 3", "give oak -1 3", "give oak 1 100", "give oak 1 -1", "give oak 1 03", "give oak 01 3", "give oak 1 +3", "give oak 1 3.0.0", "give oak 1 -0",
		"give oak 1 999999999", "give oak 1 1000000000", "give oak 1 4294967299", "give oak 1 -", "give oak 99 3", "give oak 1 x",
		"claim oak 1" + strings.Repeat(" ", 5000), strings.Repeat("claim oak 1 ", 500), strings.Repeat(" ", 5000), "claim " + strings.Repeat("a", 5000) + " 1",
		"claim oak " + strings.Repeat("0", 5000) + "1", "put oak 1.0.0 " + strings.Repeat("a", 5000) + " 1",
	} {
		checkNoDeed(t, s)
	}
}

func TestReadDeedAtEveryByte(t *testing.T) {
	for kind := int64(1); kind <= 6; kind++ {
		d := aDeedOf(kind)
		empty := d
		empty.Page = ""
		for _, s := range []string{wantShownDeed(d), wantShownDeed(empty)} {
			for at := 0; at <= len(s); at++ {
				for i := range 256 {
					c := string([]byte{byte(i)})
					checkReadDeed(t, s[:at]+c+s[at:])
					if at < len(s) {
						checkReadDeed(t, s[:at]+c+s[at+1:])
					}
				}
				if at < len(s) {
					checkReadDeed(t, s[:at]+s[at+1:])
				}
			}
		}
	}
}

// Promise 21, of this chapter: each one answers at every deed and text, as
// the document tells.
func TestDeedsAnswerAtEveryDeed(t *testing.T) {
	names := []string{"", "oak", "abcdefgh", "abcdefghi", "a b", allBytes()}
	editions := append(editionsOf(math.MinInt64, 0, 99, 100), edition(-1, 0, 0), edition(1, 2, 3), edition(3, 0, 0), edition(0, 1, 0), edition(0, 0, math.MaxInt64))
	pages := []string{"", "leaf", "-", "012345678901", "0123456789012", "\xff"}
	for _, d := range deedsOf(names, editions, pages, []int64{math.MinInt64, -1, 0, 1, 3, 4, math.MaxInt64}) {
		if want := wantDeed(d); impl.DeedOk(d) != want {
			t.Fatalf("DeedOk(%v) is %v", d, !want)
		}
		if got, want := impl.ShowDeed(d), wantShownDeed(d); got != want {
			t.Fatalf("ShowDeed(%v) is %q, not %q", d, got, want)
		}
	}
}

func TestReadDeedAnswersAtEveryText(t *testing.T) {
	around := [][2]string{{"", ""}, {"claim ", ""}, {"claim ", " 1"}, {"claim oak ", ""}, {"put oak 1.0.0 ", " 1"}, {"fetch oak ", ""}, {"give oak 1 ", ""}, {"", " oak 1"}}
	for _, s := range someTexts() {
		for _, c := range around {
			checkReadDeed(t, c[0]+s+c[1])
		}
	}
	for _, s := range wordsOf("01-a .", 5) {
		for _, c := range around {
			checkReadDeed(t, c[0]+s+c[1])
		}
	}
}

// Promise 21, of this chapter: the arguments here are views of bytes that the
// test can change, so that a write into them, or an answer that shares their
// memory, shows.
func TestReadDeedKeepsItsArgument(t *testing.T) {
	for _, s := range []string{"claim oak 1", "put oak 1.0.0 leaf 2", "put oak 1.0.0 - 2", "hide oak 1.0.0 0", "show a-b 0.0.1 3", "fetch oak 1.2.3", "give oak 1 3", "claim Oak 1", "what oak 1"} {
		room := []byte(s + "SPARE_ROOM")
		got, is := impl.ReadDeed(unsafe.String(&room[0], len(s)))
		if string(room) != s+"SPARE_ROOM" {
			t.Errorf("%q was written into: %q", s, room)
		}
		for i := range room {
			room[i] = '#'
		}
		if want, wantIs := wantReadDeed(s); got != want || is != wantIs {
			t.Errorf("ReadDeed(%q) shares the memory of its argument: %v", s, got)
		}
	}
}

func TestShowDeedKeepsItsArgument(t *testing.T) {
	for kind := int64(1); kind <= 6; kind++ {
		d := aDeedOf(kind)
		want := wantShownDeed(d)
		room := []byte(d.Name + d.Page + "SPARE_ROOM")
		before := string(room)
		d.Name = unsafe.String(&room[0], len(d.Name))
		d.Page = unsafe.String(&room[len(d.Name)], len(d.Page))
		impl.DeedOk(d)
		got := impl.ShowDeed(d)
		if string(room) != before {
			t.Errorf("%q was written into: %q", before, room)
		}
		for i := range room {
			room[i] = '#'
		}
		if got != want {
			t.Errorf("ShowDeed shares the memory of its argument: %q, not %q", got, want)
		}
	}
}

func TestShowDeedIsNewEachTime(t *testing.T) {
	for kind := int64(1); kind <= 6; kind++ {
		d := aDeedOf(kind)
		first, second := impl.ShowDeed(d), impl.ShowDeed(d)
		if unsafe.StringData(first) == unsafe.StringData(second) {
			t.Errorf("two answers of %v share their memory", d)
		}
	}
}
