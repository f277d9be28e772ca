package crc

import (
	"hash/crc32"
	"math/rand"
	"strings"
	"testing"
)

// bitwise is the sum of s as the chapter says it: bit by bit.
func bitwise(s string) uint32 {
	sum := uint32(0xffffffff)
	for i := range len(s) {
		for bit := range 8 {
			unlike := sum&1 != uint32(s[i]>>bit)&1
			sum >>= 1
			if unlike {
				sum ^= 0x82f63b78
			}
		}
	}
	return sum ^ 0xffffffff
}

func library(s string) uint32 {
	return crc32.Checksum([]byte(s), crc32.MakeTable(crc32.Castagnoli))
}

func anyText(r *rand.Rand, n int) string {
	b := make([]byte, n)
	r.Read(b)
	return string(b)
}

func rising(n int) string {
	b := make([]byte, n)
	for i := range b {
		b[i] = byte(i)
	}
	return string(b)
}

func TestOf(t *testing.T) {
	for _, x := range []struct {
		name, s string
		want    uint32
	}{
		{"nothing", "", 0},
		{"the chapter's", "123456789", 0xe3069283},
		{"one letter", "a", 0xc1d04330},
		{"the least byte", "\x00", 0x527d5351},
		{"the greatest byte", "\xff", 0xff000000},
		{"the greatest byte, four times", "\xff\xff\xff\xff", 0xffffffff},
		{"32 least bytes", strings.Repeat("\x00", 32), 0x8a9136aa},
		{"32 greatest bytes", strings.Repeat("\xff", 32), 0x62a8ab43},
		{"0 to 31", rising(32), 0x46dd794e},
	} {
		if n := Of(x.s); n != x.want {
			t.Errorf("%s: %08x, not %08x", x.name, n, x.want)
		}
	}
}

func testText(t *testing.T, s string) {
	t.Helper()
	if Of(s) != bitwise(s) {
		t.Fatalf("%.60q: %08x, not %08x", s, Of(s), bitwise(s))
	}
	if Of(s) != library(s) {
		t.Fatalf("%.60q: %08x, but the library has %08x", s, Of(s), library(s))
	}
}

func TestEveryShortText(t *testing.T) {
	for i := range 1 << 8 {
		testText(t, string([]byte{byte(i)}))
	}
	for i := range 1 << 16 {
		testText(t, string([]byte{byte(i), byte(i >> 8)}))
	}
}

func TestTextsThatAreNoRunes(t *testing.T) {
	for _, s := range []string{"é", "\xc3", "\xa9\xc3", "日本", "\xed\xa0\x80", "a\x00b", "\x80\xff\xfe"} {
		testText(t, s)
	}
}

func TestLongTexts(t *testing.T) {
	r := rand.New(rand.NewSource(1))
	for n := range 300 {
		testText(t, anyText(r, n))
		testText(t, strings.Repeat("\x00", n))
		testText(t, strings.Repeat("\xff", n))
	}
	for _, n := range []int{4000, 4003, 1 << 16, 1<<20 + 1} {
		testText(t, anyText(r, n))
	}
}

// No two of these have one sum: a bit that is changed, a byte that is lost or added at either end.
func TestWhatIsChangedIsSeen(t *testing.T) {
	r := rand.New(rand.NewSource(1))
	s := anyText(r, 200)
	was := Of(s)
	for i := range 8 * len(s) {
		b := []byte(s)
		b[i/8] ^= 1 << (i % 8)
		if Of(string(b)) == was {
			t.Fatalf("bit %d changed, and the sum is the same", i)
		}
	}
	for _, u := range []string{s[1:], s[:len(s)-1], s + "\x00", "\x00" + s, s + "\xff", "\xff" + s} {
		if Of(u) == was {
			t.Errorf("%d bytes for %d, and the sum is the same", len(u), len(s))
		}
	}
}

func TestNothingIsKept(t *testing.T) {
	r := rand.New(rand.NewSource(1))
	texts := []string{"", "123456789", anyText(r, 5000)}
	for range 3 {
		for _, s := range texts {
			testText(t, s)
		}
	}
}
