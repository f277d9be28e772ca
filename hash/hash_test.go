package hash

import (
	"math"
	"math/big"
	"math/rand"
	"slices"
	"strings"
	"testing"

	"scrivenry/api"
)

const top = 1<<31 - 2 // the greatest sum

// zero, one and last have sums at the bounds: as a number to the base 257 the first is just
// 2^31-1.
const (
	zero = "\x7d\x82\x7d\x7f"
	one  = "\x7d\x82\x7d\x80"
	last = "\x7d\x82\x7d\x7e"
)

// These two are unlike, and have one sum: they are 2^31-1 apart.
const (
	like  = "\x00\x00\x00\x00"
	like2 = "\x7e\x83\x7e\x80"
)

// sum is the sum of s, by numbers that have no bound, reduced but once.
func sum(s string) int {
	n := new(big.Int)
	for i := range len(s) {
		n.Mul(n, big.NewInt(257))
		n.Add(n, big.NewInt(int64(s[i])+1))
	}
	return int(n.Mod(n, big.NewInt(1<<31-1)).Int64())
}

// joined is what Join should tell, likewise.
func joined(a, b, n int) int {
	p := big.NewInt(1<<31 - 1)
	x := new(big.Int).Exp(big.NewInt(257), big.NewInt(int64(n)), p)
	x.Mul(x, big.NewInt(int64(a)))
	x.Add(x, big.NewInt(int64(b)))
	return int(x.Mod(x, p).Int64())
}

func anyText(r *rand.Rand, n int) string {
	b := make([]byte, n)
	r.Read(b)
	return string(b)
}

func TestOf(t *testing.T) {
	for _, x := range []struct {
		name, s string
		want    int
	}{
		{"nothing", "", 0},
		{"a", "a", 98},
		{"ab", "ab", 98*257 + 99},
		{"ba", "ba", 99*257 + 98},
		{"abc", "abc", (98*257+99)*257 + 100},
		{"the least byte", "\x00", 1},
		{"the least, twice", "\x00\x00", 258},
		{"the greatest byte", "\xff", 256},
		{"the greatest, three times", "\xff\xff\xff", 257*257*257 - 1},
		{"bytes, not runes", "\xc3\xa9", 196*257 + 170},
		{"2^31-1 is 0", zero, 0},
		{"2^31 is 1", one, 1},
		{"2^31-2 stays", last, top},
		{"one sum", like, 257*257*257 + 257*257 + 257 + 1},
		{"one sum, of another", like2, 257*257*257 + 257*257 + 257 + 1},
		{"behind a sum of 0", zero + "a", 98},
	} {
		if n := Of(x.s); n != x.want {
			t.Errorf("%s: %d, not %d", x.name, n, x.want)
		}
	}
}

func TestOfLongTexts(t *testing.T) {
	r := rand.New(rand.NewSource(1))
	for n := range 300 {
		for _, s := range []string{anyText(r, n), strings.Repeat("\xff", n), strings.Repeat("\x00", n)} {
			if Of(s) != sum(s) {
				t.Fatalf("%q: %d, not %d", s, Of(s), sum(s))
			}
		}
	}
	s := anyText(r, 20000)
	if Of(s) != sum(s) {
		t.Errorf("20000 bytes: %d, not %d", Of(s), sum(s))
	}
}

func TestJoin(t *testing.T) {
	for _, x := range []struct{ a, b, n, want int }{
		{0, 0, 0, 0},
		{98, 99, 1, 98*257 + 99},
		{98, 0, 0, 98},
		{0, 98, 1, 98},
		{0, top, api.MaxNum, top},
		{1, 0, 1, 257},
		{1, 0, 3, 257 * 257 * 257},
		{1, top, 0, 0}, // what comes of it is reduced, too
		{2, top, 0, 1},
		{top, top, 0, top - 1},
		{top, 0, 1, 1<<31 - 1 - 257},
		{12345, 678, 1<<31 - 2, 12345 + 678}, // 257, so many times, is 1 again
		{12345, 678, api.MaxNum, 12345*257 + 678},
		{top, top, api.MaxNum, 1<<31 - 1 - 258},
	} {
		if n, e := Join(x.a, x.b, x.n); n != x.want || e != api.OK {
			t.Errorf("%d %d %d: %d %d, not %d", x.a, x.b, x.n, n, e, x.want)
		}
	}
}

func TestJoinErrors(t *testing.T) {
	for _, x := range []struct{ a, b, n int }{
		{-1, 0, 0}, {0, -1, 0}, {0, 0, -1},
		{top + 1, 0, 0}, {0, top + 1, 0}, {0, 0, api.MaxNum + 1},
		{top + 2, 0, 1}, {0, top + 2, 1},
		{math.MinInt, 0, 0}, {0, math.MinInt, 0}, {0, 0, math.MinInt},
		{math.MaxInt, 0, 0}, {0, math.MaxInt, 0}, {0, 0, math.MaxInt},
		{math.MaxInt, math.MinInt, math.MaxInt},
	} {
		if n, e := Join(x.a, x.b, x.n); n != 0 || e != api.ErrArg {
			t.Errorf("%d %d %d: %d %d", x.a, x.b, x.n, n, e)
		}
	}
}

func TestJoinAnyNumbers(t *testing.T) {
	r := rand.New(rand.NewSource(1))
	bounds := []int{0, 1, 2, 1 << 16, 1<<30 - 1, 1 << 30, top - 1, top}
	test := func(a, b, n int) {
		t.Helper()
		if got, e := Join(a, b, n); got != joined(a, b, n) || e != api.OK {
			t.Fatalf("%d %d %d: %d %d, not %d", a, b, n, got, e, joined(a, b, n))
		}
	}
	for _, a := range bounds {
		for _, b := range bounds {
			for _, n := range append(bounds, api.MaxNum) {
				test(a, b, n)
			}
		}
	}
	for range 5000 {
		test(r.Intn(top+1), r.Intn(top+1), r.Intn(api.MaxNum)>>r.Intn(31))
	}
}

func TestJoinTexts(t *testing.T) {
	r := rand.New(rand.NewSource(1))
	for _, s := range []string{"", "a", "once upon a time", zero + one + last, anyText(r, 2000)} {
		for i := range len(s) + 1 {
			n, e := Join(Of(s[:i]), Of(s[i:]), len(s)-i)
			if n != Of(s) || e != api.OK {
				t.Fatalf("%.60q at %d: %d %d, not %d", s, i, n, e, Of(s))
			}
		}
	}
}

func TestFind(t *testing.T) {
	for _, x := range []struct {
		name, s, t string
		want       []int
	}{
		{"in nothing", "", "a", nil},
		{"itself", "abc", "abc", []int{0}},
		{"one byte, itself", "a", "a", []int{0}},
		{"longer than the text", "ab", "abc", nil},
		{"nowhere", "abc", "d", nil},
		{"only its beginning", "abab", "abc", nil},
		{"begun at the end", "xxab", "abc", nil},
		{"at the beginning", "abcx", "abc", []int{0}},
		{"within", "xabcx", "abc", []int{1}},
		{"at the end", "xabc", "abc", []int{1}},
		{"more than once", "abababc", "ab", []int{0, 2, 4}},
		{"one byte", "abcabca", "a", []int{0, 3, 6}},
		{"overlapping", "aaaaa", "aa", []int{0, 1, 2, 3}},
		{"overlapping, more", "abababab", "abab", []int{0, 2, 4}},
		{"begun anew within", "aabaabaaab", "aabaaa", []int{3}},
		{"begun anew, twice", "ababacababad", "ababad", []int{6}},
		{"bytes, not runes", "\xc3\xa9\xc3\xa8", "\xa9\xc3", []int{1}},
		{"the byte 0", "a\x00b\x00", "\x00", []int{1, 3}},
		{"the byte 255", "\xff\xff", "\xff", []int{0, 1}},
		{"another of one sum", like2, like, nil},
		{"another of one sum, ahead", like2 + like, like, []int{4}},
		{"a sum of 0", zero, zero, []int{0}},
		{"a sum of 0, and no such text", "abcd", zero, nil},
	} {
		if l, e := Find(x.s, x.t); !slices.Equal(l, x.want) || e != api.OK {
			t.Errorf("%s: %v %d, not %v", x.name, l, e, x.want)
		}
	}
}

func TestFindErrors(t *testing.T) {
	for _, s := range []string{"", "a", strings.Repeat("a", 2000)} {
		if l, e := Find(s, ""); l != nil || e != api.ErrArg {
			t.Errorf("%.60q: %v %d", s, l, e)
		}
	}
}

// everyText has all texts of at most n of the letters.
func everyText(letters string, n int) []string {
	l := []string{""}
	for from := 0; n > 0; n-- {
		last := l[from:]
		from = len(l)
		for _, s := range last {
			for i := range len(letters) {
				l = append(l, s+letters[i:i+1])
			}
		}
	}
	return l
}

func found(s, t string) []int {
	var l []int
	for i := range len(s) {
		if strings.HasPrefix(s[i:], t) {
			l = append(l, i)
		}
	}
	return l
}

func testFind(t *testing.T, s, u string) {
	t.Helper()
	if l, e := Find(s, u); !slices.Equal(l, found(s, u)) || e != api.OK {
		t.Fatalf("%.60q in %.60q: %.60v %d, not %.60v", u, s, l, e, found(s, u))
	}
}

func TestFindEveryShortText(t *testing.T) {
	for _, s := range everyText("ab", 10) {
		for _, u := range everyText("ab", 5)[1:] {
			testFind(t, s, u)
		}
	}
	for _, s := range everyText("abc", 6) {
		for _, u := range everyText("abc", 3)[1:] {
			testFind(t, s, u)
		}
	}
}

func TestFindPieces(t *testing.T) {
	r := rand.New(rand.NewSource(1))
	for range 300 {
		s := strings.Map(func(b rune) rune { return 'a' + b%2 }, anyText(r, 1+r.Intn(2000)))
		from := r.Intn(len(s))
		testFind(t, s, s[from:from+1+r.Intn(len(s)-from)])
	}
}

// A text that is nearly found at each place must not take a look at each of its bytes there.
func TestFindInLongTexts(t *testing.T) {
	const n = 1 << 22
	s := strings.Repeat("a", n)
	l, e := Find(s, s[:n/2])
	if len(l) != n/2+1 || e != api.OK {
		t.Fatalf("%d places %d", len(l), e)
	}
	for i, at := range l {
		if at != i {
			t.Fatalf("place %d is %d", i, at)
		}
	}
	if l, e := Find(s, s[:n/2]+"b"); len(l) != 0 || e != api.OK {
		t.Fatalf("%d places %d", len(l), e)
	}
	if l, e := Find(s, "b"+s[:n/2]); len(l) != 0 || e != api.OK {
		t.Fatalf("%d places %d", len(l), e)
	}
}

func TestAnswersShareNoMemory(t *testing.T) {
	first, _ := Find("abababab", "ab")
	second, _ := Find("abababab", "ab")
	was := slices.Clone(second[:cap(second)])
	for i := range first[:cap(first)] {
		first[:cap(first)][i] = -1
	}
	if !slices.Equal(second[:cap(second)], was) {
		t.Error("two answers share memory")
	}
	if third, _ := Find("abababab", "ab"); !slices.Equal(third, second) {
		t.Error("what was done to an answer is seen in a later one")
	}
}
