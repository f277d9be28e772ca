package diff

import (
	"math/bits"
	"math/rand"
	"slices"
	"strings"
	"testing"
	"unsafe"

	"scrivenry/api"
	"scrivenry/apply"
)

func keep(n int) api.Part { return api.Part{Kind: api.Keep, N: n} }

func cut(n int) api.Part { return api.Part{Kind: api.Cut, N: n} }

func put(s string) api.Part { return api.Part{Kind: api.Put, Text: s} }

func parts(l ...api.Part) []api.Part { return l }

// changed tells how many bytes d puts and cuts.
func changed(d []api.Part) int {
	n := 0
	for _, p := range d {
		if p.Kind != api.Keep {
			n += p.N + len(p.Text)
		}
	}
	return n
}

// testPair tests that Of's answer makes u of s, and puts and cuts as many bytes as it should.
func testPair(t *testing.T, s, u string, want int) {
	t.Helper()
	d, e := Of(s, u)
	made, e2 := apply.Do(d, s)
	if e != api.OK || e2 != api.OK || made != u {
		t.Fatalf("%.60q to %.60q: %.60v %d makes %.60q %d", s, u, d, e, made, e2)
	}
	if changed(d) != want {
		t.Fatalf("%.60q to %.60q: %.60v puts and cuts %d, not %d", s, u, d, changed(d), want)
	}
}

// These are pairs for which just one delta is right.
func TestOneAnswer(t *testing.T) {
	xs, ys := strings.Repeat("x", 500), strings.Repeat("y", 500)
	for _, x := range []struct {
		name, s, t string
		want       []api.Part
	}{
		{"nothing", "", "", nil},
		{"the same", "abc", "abc", parts(keep(3))},
		{"of nothing", "", "abc", parts(put("abc"))},
		{"to nothing", "abc", "", parts(cut(3))},
		{"nothing alike", "abc", "xy", parts(put("xy"), cut(3))},
		{"put ahead", "abc", "xabc", parts(put("x"), keep(3))},
		{"put within", "abc", "axybc", parts(keep(1), put("xy"), keep(2))},
		{"put behind", "abc", "abcx", parts(keep(3), put("x"))},
		{"cut ahead", "abc", "c", parts(cut(2), keep(1))},
		{"cut within", "abcd", "ad", parts(keep(1), cut(2), keep(1))},
		{"cut behind", "abc", "a", parts(keep(1), cut(2))},
		{"put for cut", "abcd", "axyd", parts(keep(1), put("xy"), cut(2), keep(1))},
		{"at both ends", "abc", "xby", parts(put("x"), cut(1), keep(1), put("y"), cut(1))},
		{"the last of many", "xxxa", "ayyy", parts(cut(3), keep(1), put("yyy"))},
		{"a longer run behind a shorter one", "abcde", "bcdea", parts(cut(1), keep(4), put("a"))},
		{"a longer run ahead of a shorter one", "bcdea", "abcde", parts(put("a"), keep(4), cut(1))},
		{"bytes, not runes", "\xc3\xa9", "\xc3\xa8", parts(keep(1), put("\xa8"), cut(1))},
		{"bytes that are no text", "\xff\x00\x80", "\xff\x80", parts(keep(1), cut(1), keep(1))},
		{"500, the same", xs, xs, parts(keep(500))},
		{"500, nothing alike", xs, ys, parts(put(ys), cut(500))},
		{"500, of nothing", "", xs, parts(put(xs))},
		{"500, to nothing", xs, "", parts(cut(500))},
		{"500, shifted", "a" + xs[:499], xs[:499] + "a", parts(cut(1), keep(499), put("a"))},
	} {
		if d, e := Of(x.s, x.t); e != api.OK || !slices.Equal(d, x.want) {
			t.Errorf("%s: %.60v %d, not %.60v", x.name, d, e, x.want)
		}
	}
}

func TestFewest(t *testing.T) {
	for _, x := range []struct {
		s, t string
		want int
	}{
		{"kitten", "sitting", 5},
		{"abcabba", "cbabac", 5},
		{"abc", "abd", 2},
		{"ab", "ba", 2},
		{"aaa", "aa", 1},
		{"abcdefgh", "hgfedcba", 14},
		{"xaxbxcx", "abc", 4},
	} {
		testPair(t, x.s, x.t, x.want)
	}
}

func TestLarge(t *testing.T) {
	long := strings.Repeat("x", 1<<20)
	for _, x := range []struct{ n, m int }{
		{501, 0}, {0, 501}, {501, 501}, {501, 500}, {500, 501}, {1 << 20, 0}, {0, 1 << 20}, {1 << 20, 1 << 20},
	} {
		if d, e := Of(long[:x.n], long[:x.m]); e != api.ErrLarge || d != nil {
			t.Errorf("%d to %d: %.60v %d", x.n, x.m, d, e)
		}
	}
}

// everyText has all texts of at most n of the letters.
func everyText(letters string, n int) []string {
	l := []string{""}
	for from := 0; n > 0; n-- {
		last := l[from:]
		from = len(l)
		for _, s := range last {
			for i := range len(letters) {
				l = append(l, s+letters[i:i+1])
			}
		}
	}
	return l
}

// within tells if t is s less some bytes.
func within(s, t string) bool {
	for i := 0; i < len(s) && t != ""; i++ {
		if s[i] == t[0] {
			t = t[1:]
		}
	}
	return t == ""
}

// fewest tries all choices of bytes of s to be kept.
func fewest(s, t string) int {
	most := 0
	for choice := range uint(1) << len(s) {
		var kept []byte
		for i := range len(s) {
			if choice>>i&1 == 1 {
				kept = append(kept, s[i])
			}
		}
		if within(t, string(kept)) {
			most = max(most, bits.OnesCount(choice))
		}
	}
	return len(s) + len(t) - 2*most
}

func TestEveryShortPair(t *testing.T) {
	for _, all := range [][]string{everyText("ab", 6), everyText("abc", 4)} {
		for _, s := range all {
			for _, u := range all {
				testPair(t, s, u, fewest(s, u))
			}
		}
	}
}

// reached tells by how few bytes that are put or cut one comes from s to t: it goes on, change
// by change, as far as each can bring it, on each diagonal.
func reached(s, t string) int {
	far := map[int]int{1: 0}
	for n := 0; ; n++ {
		for k := -n; k <= n; k += 2 {
			i := far[k-1] + 1
			if k == -n || k != n && far[k-1] < far[k+1] {
				i = far[k+1]
			}
			for i < len(s) && i-k < len(t) && s[i] == t[i-k] {
				i++
			}
			far[k] = i
			if i >= len(s) && i-k >= len(t) {
				return n
			}
		}
	}
}

func anyText(r *rand.Rand, letters, n int) string {
	b := make([]byte, n)
	for i := range b {
		b[i] = byte(255 - r.Intn(letters))
	}
	return string(b)
}

// revised has s with some pieces of it replaced.
func revised(r *rand.Rand, s string) string {
	for range r.Intn(8) {
		from := r.Intn(len(s) + 1)
		to := min(len(s), from+r.Intn(10))
		s = s[:from] + anyText(r, 4, r.Intn(10)) + s[to:]
	}
	return s[:min(len(s), 500)]
}

func TestLongPairs(t *testing.T) {
	r := rand.New(rand.NewSource(1))
	for _, letters := range []int{1, 2, 4, 26, 256} {
		for range 20 {
			s, u := anyText(r, letters, r.Intn(501)), anyText(r, letters, r.Intn(501))
			testPair(t, s, u, reached(s, u))
			u = revised(r, s)
			testPair(t, s, u, reached(s, u))
		}
	}
}

func TestMost(t *testing.T) {
	xs, ys := strings.Repeat("x", 500), strings.Repeat("y", 500)
	testPair(t, xs, ys, 1000)
	testPair(t, xs, xs[:499]+"y", 2)
	testPair(t, strings.Repeat("ab", 250), strings.Repeat("cb", 250), 500)
	testPair(t, strings.Repeat("ab", 250), strings.Repeat("ba", 250), 2)
	testPair(t, strings.Repeat("ab", 250), strings.Repeat("b", 250), 250)
	testPair(t, strings.Repeat("abc", 166), strings.Repeat("acb", 166), reached(strings.Repeat("abc", 166), strings.Repeat("acb", 166)))
}

func TestAnswerIsNewMemory(t *testing.T) {
	u := strings.Repeat("y", 40)
	first, _ := Of("x", u)
	if first[0].Text != u || unsafe.StringData(first[0].Text) == unsafe.StringData(u) {
		t.Error("the text that is put is the one that was handed in")
	}
	second, _ := Of("x", u)
	was := slices.Clone(second[:cap(second)])
	for i := range first[:cap(first)] {
		first[:cap(first)][i] = put("mine")
	}
	if !slices.Equal(second[:cap(second)], was) {
		t.Error("two answers share memory")
	}
	if third, _ := Of("x", u); !slices.Equal(third, second) {
		t.Error("what was done to an answer is seen in a later one")
	}
}
