package tests

import (
	"math/rand"
	"regexp"
	"strings"
	"testing"
	"unsafe"

	"loop.example/g00572/impl"
)

// The document's words once more, by another way than the program's.
var (
	nameShape = regexp.MustCompile(`\A[a-z]+(-[a-z]+)*\z`)
	pageShape = regexp.MustCompile(`\A[a-z0-9]{0,12}\z`)
)

func wantName(s string) bool { return len(s) <= 8 && nameShape.MatchString(s) }

func wantPage(s string) bool { return pageShape.MatchString(s) }

func wantPlain(s string) string {
	from := "ABCDEFGHIJKLMNOPQRSTUVWXYZ_"
	to := "abcdefghijklmnopqrstuvwxyz-"
	var b strings.Builder
	for i := 0; i < len(s); i++ {
		if k := strings.IndexByte(from, s[i]); k >= 0 {
			b.WriteByte(to[k])
		} else {
			b.WriteByte(s[i])
		}
	}
	return b.String()
}

// allBytes is a text of every byte from 0 to 255.
func allBytes() string {
	b := make([]byte, 256)
	for i := range b {
		b[i] = byte(i)
	}
	return string(b)
}

// wordsOf is every text of at most most bytes of letters.
func wordsOf(letters string, most int) []string {
	all := []string{""}
	last := all
	for range most {
		var next []string
		for _, w := range last {
			for i := 0; i < len(letters); i++ {
				next = append(next, w+letters[i:i+1])
			}
		}
		all = append(all, next...)
		last = next
	}
	return all
}

// someTexts is what the tests of every text go through: the empty one, each
// byte alone and inside, each two bytes, ordinary ones, long ones, and ones
// that are no right UTF-8.
func someTexts() []string {
	list := []string{"", "oak", "Oak", "O_Ak", "a-b", "_", "__", "-", "A_-_Z", "two words", "1.2.3",
		"@AZ[", "`az{", "/09:", "^_`", ",-.", "\x00", "\x00a", "a\x00", "a\n", "\xff\xfe", "\xc3", "\u00c4\u00e4\u0130\u212a",
		allBytes(), strings.Repeat("A_", 5000), strings.Repeat(allBytes(), 20)}
	for i := range 256 {
		c := string([]byte{byte(i)})
		list = append(list, c, "a"+c, c+"a", "a"+c+"a", "A_"+c+"_A")
		for k := range 256 {
			list = append(list, string([]byte{byte(i), byte(k)}))
		}
	}
	r := rand.New(rand.NewSource(1))
	for range 2000 {
		b := make([]byte, r.Intn(20))
		for i := range b {
			b[i] = byte(r.Intn(256))
		}
		list = append(list, string(b))
	}
	return list
}

func TestNameOkAsTold(t *testing.T) {
	good := []string{"a", "z", "m", "aa", "oak", "a-b", "a-b-c", "ab-cd-ef", "a-b-c-de", "abcdefgh", "zzzzzzzz", "abcdef-h", "a-cdefgh"}
	bad := []string{"", "-", "--", "---", "-a", "a-", "-a-", "a--b", "a---b", "a-b--c", "a--", "--a",
		"abcdefghi", "abcdefg-", "-bcdefgh", "a-b-c-d-", "abcdefg-i", "a-b-c-d-e",
		"A", "Z", "aB", "Oak", "a_b", "_", "0", "9", "a0", "0a", "a b", " a", "a ", "a.b", "a\n", "a\x00", "\x00", "\xff", "\u00e4",
		strings.Repeat("a", 16), strings.Repeat("a", 264), strings.Repeat("a", 1<<16+1)}
	for _, s := range good {
		if !impl.NameOk(s) {
			t.Errorf("NameOk(%q) is false", s)
		}
	}
	for _, s := range bad {
		if impl.NameOk(s) {
			t.Errorf("NameOk(%q) is true", s)
		}
	}
}

func TestNameOkByLength(t *testing.T) {
	for n := range 600 {
		if s, want := strings.Repeat("a", n), n >= 1 && n <= 8; impl.NameOk(s) != want {
			t.Errorf("NameOk of %d letters is %v", n, !want)
		}
	}
}

func TestNameOkAtEveryByte(t *testing.T) {
	for i := range 256 {
		c := string([]byte{byte(i)})
		small := i >= 'a' && i <= 'z'
		for _, s := range []string{c, c + "a", "a" + c, c + "abcdefg", "abcdefg" + c} {
			if impl.NameOk(s) != small {
				t.Errorf("NameOk(%q) is %v", s, !small)
			}
		}
		for _, s := range []string{"a" + c + "a", "abc" + c + "efgh", "a" + c + "cdefgh", "abcdef" + c + "h"} {
			if want := small || i == '-'; impl.NameOk(s) != want {
				t.Errorf("NameOk(%q) is %v", s, !want)
			}
		}
	}
}

func TestNameOkOfAllShapes(t *testing.T) {
	for _, s := range append(wordsOf("az-", 9), wordsOf("a-A_0`{", 5)...) {
		if want := wantName(s); impl.NameOk(s) != want {
			t.Fatalf("NameOk(%q) is %v", s, !want)
		}
	}
}

func TestPageOkAsTold(t *testing.T) {
	good := []string{"", "a", "z", "0", "9", "00", "a1", "1a", "abcdefghijkl", "012345678901", "a0b1c2d3e4f5"}
	bad := []string{"A", "Z", "-", "_", "*", " ", "a b", "a-b", "A1", "1A", "a\n", "\n", "\x00", "\xff", "\u00e4", "1.2",
		"abcdefghijklm", "0123456789012", "abcdefghijkL", "abcdefghijk-", "Abcdefghijkl", strings.Repeat("0", 268), strings.Repeat("a", 1<<16+1)}
	for _, s := range good {
		if !impl.PageOk(s) {
			t.Errorf("PageOk(%q) is false", s)
		}
	}
	for _, s := range bad {
		if impl.PageOk(s) {
			t.Errorf("PageOk(%q) is true", s)
		}
	}
}

func TestPageOkByLength(t *testing.T) {
	for n := range 600 {
		for _, c := range []string{"a", "0"} {
			if want := n <= 12; impl.PageOk(strings.Repeat(c, n)) != want {
				t.Errorf("PageOk of %d times %s is %v", n, c, !want)
			}
		}
	}
}

func TestPageOkAtEveryByte(t *testing.T) {
	for i := range 256 {
		c := string([]byte{byte(i)})
		want := i >= 'a' && i <= 'z' || i >= '0' && i <= '9'
		for _, s := range []string{c, c + "a", "a" + c, "a" + c + "0", c + "abcdefghijk", "abcdefghijk" + c, "abcde" + c + "012345"} {
			if impl.PageOk(s) != want {
				t.Errorf("PageOk(%q) is %v", s, !want)
			}
		}
	}
}

func TestPlainAsTold(t *testing.T) {
	for _, c := range [][2]string{
		{"", ""}, {"oak", "oak"}, {"Oak", "oak"}, {"O_Ak", "o-ak"}, {"OAK", "oak"}, {"a-b", "a-b"}, {"A_B", "a-b"},
		{"_", "-"}, {"__", "--"}, {"_-_", "---"}, {"AZ az 09", "az az 09"}, {"@AZ[\\]^_`az{", "@az[\\]^-`az{"},
		{"\u00c4\u0130\u212a", "\u00c4\u0130\u212a"}, {"\xc4\xff\x80", "\xc4\xff\x80"}, {"A\x00B", "a\x00b"},
		{"ABCDEFGHIJKLMNOPQRSTUVWXYZ", "abcdefghijklmnopqrstuvwxyz"},
	} {
		if got := impl.Plain(c[0]); got != c[1] {
			t.Errorf("Plain(%q) is %q, not %q", c[0], got, c[1])
		}
	}
}

func TestPlainAtEveryByte(t *testing.T) {
	for i := range 256 {
		want := byte(i)
		if i >= 'A' && i <= 'Z' {
			want += 32
		}
		if i == '_' {
			want = '-'
		}
		for _, around := range [][2]string{{"", ""}, {"x", ""}, {"", "x"}, {"-", "9"}} {
			s := around[0] + string([]byte{byte(i)}) + around[1]
			if got := impl.Plain(s); got != around[0]+string([]byte{want})+around[1] {
				t.Errorf("Plain(%q) is %q", s, got)
			}
		}
	}
}

// Promise 1.
func TestPlainOfPlainIsPlain(t *testing.T) {
	for _, s := range someTexts() {
		once := impl.Plain(s)
		if want := wantPlain(s); once != want {
			t.Fatalf("Plain(%q) is %q, not %q", s, once, want)
		}
		if twice := impl.Plain(once); twice != once {
			t.Fatalf("Plain(%q) is %q, and Plain of that %q", s, once, twice)
		}
	}
}

func TestSameNameAsTold(t *testing.T) {
	same := [][2]string{{"a", "a"}, {"a", "A"}, {"A", "A"}, {"A_B", "a-b"}, {"a_b", "a-b"}, {"Oak", "oAK"}, {"ABCDEFGH", "abcdefgh"}, {"A_B-C_DE", "a-b_c-de"}}
	other := [][2]string{
		{"a", "b"}, {"a", "aa"}, {"a-b", "ab"}, {"a_b", "a-c"}, {"abcdefgh", "abcdefgg"}, {"a", "z"}, // names, not the same
		{"", ""}, {"_", "-"}, {"-", "-"}, {"_a", "-a"}, {"a_", "a-"}, {"a__b", "a--b"}, {"a_-b", "a-_b"}, // the same, no names
		{"a0", "a0"}, {"A0", "a0"}, {"a b", "a b"}, {"a.b", "A.B"}, {"\x00", "\x00"}, {"\xff", "\xff"}, {"\u00e4", "\u00e4"}, {"abcdefghi", "ABCDEFGHI"},
		{"", "a"}, {"a", ""}, {"a", "-a"}, {"a-", "a"}, {"a", "0"}, {"@", "`"}, {"[", "{"}, {"k", "\u212a"},
	}
	for _, p := range same {
		if !impl.SameName(p[0], p[1]) || !impl.SameName(p[1], p[0]) {
			t.Errorf("SameName of %q and %q is false", p[0], p[1])
		}
	}
	for _, p := range other {
		if impl.SameName(p[0], p[1]) || impl.SameName(p[1], p[0]) {
			t.Errorf("SameName of %q and %q is true", p[0], p[1])
		}
	}
}

func TestSameNameOfAllShapes(t *testing.T) {
	words := append(wordsOf("aAb_-0", 3), "abcdefgh", "ABCDEFGH", "abcdefghi", "ABCDEFGHI")
	for _, a := range words {
		for _, b := range words {
			want := wantName(wantPlain(a)) && wantName(wantPlain(b)) && wantPlain(a) == wantPlain(b)
			if impl.SameName(a, b) != want {
				t.Fatalf("SameName of %q and %q is %v", a, b, !want)
			}
		}
	}
}

// Promise 21, of this chapter: each one answers at every text, as the
// document tells.
func TestNamesAnswerAtEveryText(t *testing.T) {
	for _, s := range someTexts() {
		if want := wantName(s); impl.NameOk(s) != want {
			t.Fatalf("NameOk(%q) is %v", s, !want)
		}
		if want := wantPage(s); impl.PageOk(s) != want {
			t.Fatalf("PageOk(%q) is %v", s, !want)
		}
		if want := wantName(wantPlain(s)); impl.SameName(s, s) != want {
			t.Fatalf("SameName(%q) with itself is %v", s, !want)
		}
	}
}

// Promise 21, of this chapter: the arguments here are views of bytes that the
// test can change, so that a write into them, or an answer that shares their
// memory, shows.
func TestNamesKeepArguments(t *testing.T) {
	for _, s := range []string{"oak", "O_Ak", "a-b", "plain-ab", "_", allBytes()} {
		room := []byte(s + "SPARE_ROOM")
		view := unsafe.String(&room[0], len(s))
		impl.NameOk(view)
		impl.PageOk(view)
		impl.SameName(view, view)
		got := impl.Plain(view)
		if string(room) != s+"SPARE_ROOM" {
			t.Errorf("%q was written into: %q", s, room)
		}
		for i := range room {
			room[i] = '#'
		}
		if got != wantPlain(s) {
			t.Errorf("Plain(%q) shares the memory of its argument", s)
		}
	}
}
