package tests

import (
	"math"
	"math/rand"
	"slices"
	"testing"

	"loop.example/g00572/impl"
)

// The document's words once more, by another way than the program's: which of
// 0 to 4 are in a set, told as a list.
func wantMembers(set int64) []int64 {
	var members []int64
	for i, bit := range []int64{1, 2, 4, 8, 16} {
		if set/bit%2 == 1 {
			members = append(members, int64(i))
		}
	}
	return members
}

func wantSetOk(set int64) bool { return set >= 0 && set <= 31 }

func wantInSet(set, i int64) bool { return wantSetOk(set) && slices.Contains(wantMembers(set), i) }

func wantWith(set, i int64) int64 {
	if !wantSetOk(set) || i < 0 || i > 4 {
		return -1
	}
	if wantInSet(set, i) {
		return set
	}
	return set + []int64{1, 2, 4, 8, 16}[i]
}

func wantSizeOf(set int64) int64 {
	if !wantSetOk(set) {
		return -1
	}
	return int64(len(wantMembers(set)))
}

func wantMostOf(n int64) int64 { return map[int64]int64{3: 2, 5: 3}[n] }

// howMany counts the numbers that are so.
func howMany(match []int64, so func(int64) bool) int64 {
	count := int64(0)
	for _, m := range match {
		if so(m) {
			count++
		}
	}
	return count
}

// wantReached tries each of the numbers: none between two of them, or above
// them all, is not below fewer than the next one of them.
func wantReached(match []int64) int64 {
	most := wantMostOf(int64(len(match)))
	if most == 0 {
		return -1
	}
	best, found := int64(0), false
	for _, m := range match {
		if howMany(match, func(n int64) bool { return n >= m }) >= most && (!found || m > best) {
			best, found = m, true
		}
	}
	return best
}

// farOff is numbers of no scribe, no set, and no count, near the limits and
// far from them; such, too, whose lowest bits, or whose shift, would do.
func farOff() []int64 {
	return []int64{math.MinInt64, math.MinInt64 + 1, math.MinInt64 + 3, math.MinInt64 + 5, -1 << 32, -65, -64, -63, -33, -32, -31, -16, -5, -4, -3, -2, -1, 32, 33, 35, 37, 63, 64, 65, 67, 69, 128, 255, 256, 259, 261, 1 << 31, 1<<32 + 3, 1<<32 + 5, 1 << 62, math.MaxInt64 - 2, math.MaxInt64 - 1, math.MaxInt64}
}

func checkCounts(t *testing.T, n int64) {
	t.Helper()
	if got, want := impl.CountOk(n), wantMostOf(n) > 0; got != want {
		t.Errorf("CountOk(%d) is %v", n, got)
	}
	if got, want := impl.MostOf(n), wantMostOf(n); got != want {
		t.Errorf("MostOf(%d) is %d, not %d", n, got, want)
	}
}

func checkInSet(t *testing.T, set, i int64) {
	t.Helper()
	if got := impl.InSet(set, i); got != wantInSet(set, i) {
		t.Errorf("InSet(%d, %d) is %v", set, i, got)
	}
}

func checkWith(t *testing.T, set, i int64) {
	t.Helper()
	if got, want := impl.With(set, i), wantWith(set, i); got != want {
		t.Errorf("With(%d, %d) is %d, not %d", set, i, got, want)
	}
}

func checkSizeOf(t *testing.T, set int64) {
	t.Helper()
	if got, want := impl.SizeOf(set), wantSizeOf(set); got != want {
		t.Errorf("SizeOf(%d) is %d, not %d", set, got, want)
	}
}

// checkReached asks the list and its spare room to stay, too.
func checkReached(t *testing.T, match []int64) {
	t.Helper()
	room := []int64{math.MaxInt64, 7, -7, math.MinInt64}
	given := append(slices.Clone(match), room...)
	got, want := impl.Reached(given[:len(match)]), wantReached(match)
	if got != want {
		t.Errorf("Reached(%v) is %d, not %d", match, got, want)
	}
	if !slices.Equal(given[:len(match)], match) || !slices.Equal(given[len(match):], room) {
		t.Errorf("Reached(%v) has written into it: %v", match, given)
	}
	most := wantMostOf(int64(len(match)))
	if most == 0 {
		return
	}
	// As the document tells it: more than half are not below it, and no
	// greater number is such.
	if howMany(match, func(n int64) bool { return n >= got }) < most {
		t.Errorf("Reached(%v) is %d, which more than half are below, or half", match, got)
	}
	if howMany(match, func(n int64) bool { return n > got }) >= most {
		t.Errorf("Reached(%v) is %d, and more than half are above it", match, got)
	}
}

// inEveryOrder is the list in each order.
func inEveryOrder(list []int64) [][]int64 {
	if len(list) == 0 {
		return [][]int64{nil}
	}
	var orders [][]int64
	for i, first := range list {
		for _, rest := range inEveryOrder(slices.Delete(slices.Clone(list), i, i+1)) {
			orders = append(orders, append([]int64{first}, rest...))
		}
	}
	return orders
}

// listsOfLength is every list of so many of these numbers.
func listsOfLength(n int, numbers ...int64) [][]int64 {
	lists := [][]int64{nil}
	for range n {
		var longer [][]int64
		for _, list := range lists {
			for _, number := range numbers {
				longer = append(longer, append(slices.Clone(list), number))
			}
		}
		lists = longer
	}
	return lists
}

func TestCountsAsTold(t *testing.T) {
	for _, c := range []struct {
		n, most int64
	}{{-1, 0}, {0, 0}, {1, 0}, {2, 0}, {3, 2}, {4, 0}, {5, 3}, {6, 0}, {7, 0}, {math.MinInt64, 0}, {math.MaxInt64, 0}} {
		if got := impl.CountOk(c.n); got != (c.n == 3 || c.n == 5) {
			t.Errorf("CountOk(%d) is %v", c.n, got)
		}
		if got := impl.MostOf(c.n); got != c.most {
			t.Errorf("MostOf(%d) is %d, not %d", c.n, got, c.most)
		}
	}
	for n := int64(-300); n <= 300; n++ {
		checkCounts(t, n)
	}
}

func TestMostOfIsMoreThanHalfAndNoMore(t *testing.T) {
	for _, n := range []int64{3, 5} {
		if most := impl.MostOf(n); 2*most <= n || 2*(most-1) > n {
			t.Errorf("MostOf(%d) is %d", n, most)
		}
	}
}

func TestInSetAsTold(t *testing.T) {
	for _, c := range []struct {
		set, i int64
		want   bool
	}{
		{0, 0, false}, {1, 0, true}, {1, 1, false}, {2, 0, false}, {2, 1, true}, {4, 2, true}, {8, 3, true}, {16, 4, true}, {15, 4, false}, {30, 0, false},
		{31, 0, true}, {31, 4, true}, {31, 5, false}, {31, -1, false}, {-1, 0, false}, {32, 5, false}, {33, 0, false}, {64, 6, false},
		{math.MinInt64, 63, false}, {math.MaxInt64, 0, false}, {31, math.MinInt64, false}, {31, math.MaxInt64, false},
	} {
		if got := impl.InSet(c.set, c.i); got != c.want {
			t.Errorf("InSet(%d, %d) is %v", c.set, c.i, got)
		}
	}
}

func TestWithAsTold(t *testing.T) {
	for _, c := range []struct{ set, i, want int64 }{
		{0, 0, 1}, {0, 1, 2}, {0, 2, 4}, {0, 3, 8}, {0, 4, 16}, {5, 1, 7}, {15, 4, 31}, {30, 0, 31}, {21, 3, 29},
		{1, 0, 1}, {16, 4, 16}, {31, 0, 31}, {31, 4, 31}, // in it already
		{0, -1, -1}, {0, 5, -1}, {31, 5, -1}, {31, -1, -1}, {-1, 0, -1}, {-1, 4, -1}, {32, 0, -1}, {32, 4, -1}, {32, 5, -1},
		{math.MinInt64, 0, -1}, {math.MaxInt64, 0, -1}, {0, math.MinInt64, -1}, {0, math.MaxInt64, -1}, {math.MinInt64, math.MaxInt64, -1},
	} {
		if got := impl.With(c.set, c.i); got != c.want {
			t.Errorf("With(%d, %d) is %d, not %d", c.set, c.i, got, c.want)
		}
	}
}

func TestInSetAndWithOfEverySet(t *testing.T) {
	for set := range int64(32) {
		for i := range int64(5) {
			checkInSet(t, set, i)
			checkWith(t, set, i)
			with := impl.With(set, i)
			if !impl.InSet(with, i) {
				t.Errorf("With(%d, %d) is %d, without it", set, i, with)
			}
			if impl.InSet(set, i) && with != set {
				t.Errorf("With(%d, %d) is %d, though it is in it already", set, i, with)
			}
			if impl.With(with, i) != with {
				t.Errorf("With(%d, %d), twice, is %d", set, i, impl.With(with, i))
			}
			for other := range int64(5) {
				if other != i && impl.InSet(with, other) != impl.InSet(set, other) {
					t.Errorf("With(%d, %d) is %d: %d is another way in it", set, i, with, other)
				}
			}
		}
	}
}

func TestWithOfAllThatAreInIt(t *testing.T) {
	for set := range int64(32) {
		for _, order := range inEveryOrder(wantMembers(set)) {
			built := int64(0)
			for k, i := range order {
				if built = impl.With(built, i); impl.SizeOf(built) != int64(k+1) {
					t.Fatalf("SizeOf(%d) is %d, of %v", built, impl.SizeOf(built), order[:k+1])
				}
			}
			if built != set {
				t.Fatalf("with %v it is %d, not %d", order, built, set)
			}
		}
	}
}

func TestSizeOfAsTold(t *testing.T) {
	for _, c := range [][2]int64{
		{0, 0}, {1, 1}, {2, 1}, {3, 2}, {4, 1}, {7, 3}, {8, 1}, {15, 4}, {16, 1}, {21, 3}, {30, 4}, {31, 5},
		{-1, -1}, {32, -1}, {33, -1}, {math.MinInt64, -1}, {math.MaxInt64, -1},
	} {
		if got := impl.SizeOf(c[0]); got != c[1] {
			t.Errorf("SizeOf(%d) is %d, not %d", c[0], got, c[1])
		}
	}
	for set := range int64(32) {
		checkSizeOf(t, set)
		if size := howMany([]int64{0, 1, 2, 3, 4}, func(i int64) bool { return impl.InSet(set, i) }); impl.SizeOf(set) != size {
			t.Errorf("SizeOf(%d) is %d, and %d are in it", set, impl.SizeOf(set), size)
		}
	}
}

func TestSetsOfOthers(t *testing.T) {
	for _, other := range farOff() {
		checkSizeOf(t, other)
		for near := int64(-1); near <= 32; near++ {
			checkInSet(t, other, near)
			checkWith(t, other, near)
			checkInSet(t, near, other)
			checkWith(t, near, other)
		}
	}
}

// Promise 9, of all sets of the n scribes.
func TestAnyTwoSetsOfMostHaveOneInBoth(t *testing.T) {
	for _, c := range []struct{ n, sets int64 }{{3, 4}, {5, 16}} {
		var large []int64
		for set := range int64(1) << c.n {
			if impl.SizeOf(set) >= impl.MostOf(c.n) {
				large = append(large, set)
			}
		}
		if int64(len(large)) != c.sets {
			t.Errorf("of %d there are %d sets of more than half, not %d: %v", c.n, len(large), c.sets, large)
		}
		for _, a := range large {
			for _, b := range large {
				both := int64(0)
				for i := range c.n {
					if impl.InSet(a, i) && impl.InSet(b, i) {
						both++
					}
				}
				if both == 0 {
					t.Errorf("of %d, none is in both of %d and %d", c.n, a, b)
				}
			}
		}
	}
}

// Promise 9, of sets that are put together one by one, until they are most.
func TestSetsPutTogetherUntilTheyAreMostHaveOneInBoth(t *testing.T) {
	for _, n := range []int64{3, 5} {
		var scribes []int64
		for i := range n {
			scribes = append(scribes, i)
		}
		var large []int64
		for _, order := range inEveryOrder(scribes) {
			set := int64(0)
			for _, i := range order {
				if impl.SizeOf(set) < impl.MostOf(n) {
					set = impl.With(set, i)
				}
			}
			if impl.SizeOf(set) != impl.MostOf(n) {
				t.Fatalf("of %d, %v come to %d, of %d", n, order, set, impl.SizeOf(set))
			}
			large = append(large, set)
		}
		for _, a := range large {
			for _, b := range large {
				if !slices.ContainsFunc(scribes, func(i int64) bool { return impl.InSet(a, i) && impl.InSet(b, i) }) {
					t.Fatalf("of %d, none is in both of %d and %d", n, a, b)
				}
			}
		}
	}
}

func TestReachedAsTold(t *testing.T) {
	least, greatest := int64(math.MinInt64), int64(math.MaxInt64)
	for _, c := range []struct {
		match []int64
		want  int64
	}{
		{[]int64{5, 1, 3}, 3}, {[]int64{5, 1, 3, 9, 2}, 3},
		{[]int64{0, 0, 0}, 0}, {[]int64{4, 4, 4}, 4}, {[]int64{4, 4, 0}, 4}, {[]int64{4, 0, 0}, 0}, {[]int64{0, 0, 0, 7, 7}, 0}, {[]int64{0, 0, 7, 7, 7}, 7}, {[]int64{0, 0, 5, 7, 7}, 5}, {[]int64{2, 2, 2, 2, 2}, 2}, {[]int64{1, 2, 2, 2, 9}, 2},
		{[]int64{-5, -1, -3}, -3}, {[]int64{-5, -5, 8}, -5}, {[]int64{-1, -1, -1}, -1}, {[]int64{-2, -1, 0, 1, 2}, 0}, {[]int64{-9, -8, -7, 100, 200}, -7},
		{[]int64{least, 0, greatest}, 0}, {[]int64{least, least, greatest}, least}, {[]int64{least, greatest, greatest}, greatest}, {[]int64{least, least, least}, least}, {[]int64{greatest, greatest, greatest}, greatest},
		{[]int64{least, least, -1, greatest, greatest}, -1}, {[]int64{least, least, least, greatest, greatest}, least}, {[]int64{least, least, greatest, greatest, greatest}, greatest}, {[]int64{least, least + 1, greatest - 1, greatest, 1 << 32}, 1 << 32},
	} {
		for _, order := range inEveryOrder(c.match) {
			if got := impl.Reached(order); got != c.want {
				t.Errorf("Reached(%v) is %d, not %d", order, got, c.want)
			}
		}
	}
}

func TestReachedOfAllLists(t *testing.T) {
	least, greatest := int64(math.MinInt64), int64(math.MaxInt64)
	for _, match := range listsOfLength(3, least, least+1, -2, -1, 0, 1, 2, 300, greatest-1, greatest) {
		checkReached(t, match)
	}
	for _, match := range listsOfLength(5, least, -1, 0, 1, 400, greatest) {
		checkReached(t, match)
	}
	for _, match := range [][]int64{{1, 2, 3}, {-1, 0, 1}, {1, 2, 3, 4, 5}, {-30, -20, -10, 0, 10}, {least, -1, 0, 1, greatest}} {
		orders := inEveryOrder(match)
		if want := map[int]int{3: 6, 5: 120}[len(match)]; len(orders) != want {
			t.Fatalf("%v has %d orders", match, len(orders))
		}
		for _, order := range orders {
			checkReached(t, order)
			if got := impl.Reached(order); got != match[len(match)/2] {
				t.Errorf("Reached(%v) is %d", order, got)
			}
		}
	}
}

func TestReachedOfManyLists(t *testing.T) {
	r := rand.New(rand.NewSource(9))
	for range 20000 {
		match := make([]int64, 3+2*r.Intn(2))
		for i := range match {
			if match[i] = int64(r.Uint64()); r.Intn(2) == 0 {
				match[i] = r.Int63n(8) - 3
			}
		}
		checkReached(t, match)
	}
}

func TestReachedByLength(t *testing.T) {
	if got := impl.Reached(nil); got != -1 {
		t.Errorf("Reached of none is %d", got)
	}
	for n := range 40 {
		for _, number := range []int64{math.MinInt64, -1, 0, 4, math.MaxInt64} {
			match := slices.Repeat([]int64{number}, n)
			want := int64(-1)
			if n == 3 || n == 5 {
				want = number
			}
			if got := impl.Reached(match); got != want {
				t.Errorf("Reached of %d times %d is %d, not %d", n, number, got, want)
			}
			checkReached(t, match)
		}
	}
	for _, n := range []int{0, 1, 2, 4, 6, 7, 1000, 1 << 16} {
		match := make([]int64, n)
		for i := range match {
			match[i] = int64(n - i)
		}
		checkReached(t, match)
	}
}

// Promise 21, of this chapter: each one answers at every argument, as the
// document tells.
func TestMajorityAnswersAtEveryArgument(t *testing.T) {
	numbers := farOff()
	for n := int64(-8); n <= 40; n++ {
		numbers = append(numbers, n)
	}
	for _, a := range numbers {
		checkCounts(t, a)
		checkSizeOf(t, a)
		for _, b := range numbers {
			checkInSet(t, a, b)
			checkWith(t, a, b)
		}
	}
	for n := range 8 {
		for k := range numbers[:len(numbers)-n] {
			checkReached(t, numbers[k:k+n])
		}
	}
}

// Promise 21, of this chapter: a list that is a part of a longer one leaves
// that one as it was, and nothing is kept from one call to the next.
func TestReachedKeepsItsArgument(t *testing.T) {
	long := []int64{9, -4, 7, 7, math.MinInt64, 0, 12, math.MaxInt64, 3, -1, 5, 2}
	before := slices.Clone(long)
	for from := range long {
		for to := from; to <= len(long); to++ {
			part := long[from:to]
			first, second := impl.Reached(part), impl.Reached(part)
			if want := wantReached(before[from:to]); first != want || second != want {
				t.Errorf("Reached(%v) is %d, then %d, not %d", part, first, second, want)
			}
			if !slices.Equal(long, before) {
				t.Fatalf("Reached of %d to %d has written into the longer list: %v", from, to, long)
			}
		}
	}
}

// What is changed in a list behind a call tells in the next one alone.
func TestReachedTellsOfTheListAsItIs(t *testing.T) {
	match := []int64{1, 2, 3, 4, 5}
	var answers []int64
	for i := range match {
		answers = append(answers, impl.Reached(match))
		match[i] = 10
	}
	answers = append(answers, impl.Reached(match))
	if want := []int64{3, 4, 5, 10, 10, 10}; !slices.Equal(answers, want) {
		t.Errorf("the answers are %v, not %v", answers, want)
	}
}
