package num

import (
	"encoding/binary"
	"math"
	"math/rand"
	"strings"
	"testing"

	"scrivenry/api"
)

// bounds are the numbers at which one more byte is needed, and what stands beside them.
func bounds() []int {
	l := []int{0, 1, 2, 100, 300, api.MaxNum - 1, api.MaxNum}
	for _, bit := range []int{7, 8, 14, 16, 21, 24, 28, 30} {
		l = append(l, 1<<bit-1, 1<<bit, 1<<bit+1)
	}
	return l
}

func TestPut(t *testing.T) {
	for _, x := range []struct {
		n    int
		want string
	}{
		{0, "\x00"},
		{1, "\x01"},
		{127, "\x7f"},
		{128, "\x80\x01"},
		{129, "\x81\x01"},
		{255, "\xff\x01"},
		{256, "\x80\x02"},
		{300, "\xac\x02"},
		{1<<14 - 1, "\xff\x7f"},
		{1 << 14, "\x80\x80\x01"},
		{1<<21 - 1, "\xff\xff\x7f"},
		{1 << 21, "\x80\x80\x80\x01"},
		{1<<28 - 1, "\xff\xff\xff\x7f"},
		{1 << 28, "\x80\x80\x80\x80\x01"},
		{1<<31 - 1, "\xff\xff\xff\xff\x07"},
		{1 + 2<<7 + 3<<14 + 4<<21 + 5<<28, "\x81\x82\x83\x84\x05"},
	} {
		if s, e := Put(x.n); s != x.want || e != api.OK {
			t.Errorf("%d: %x %d, not %x", x.n, s, e, x.want)
		}
	}
}

func TestPutErrors(t *testing.T) {
	for _, n := range []int{-1, -2, -128, math.MinInt32, math.MinInt, 1 << 31, 1<<31 + 1, 1 << 32, 1<<35 - 1, math.MaxInt} {
		if s, e := Put(n); s != "" || e != api.ErrArg {
			t.Errorf("%d: %x %d", n, s, e)
		}
	}
}

func TestGet(t *testing.T) {
	for _, x := range []struct {
		s       string
		n, size int
	}{
		{"\x00", 0, 1},
		{"\x00\x00", 0, 1},
		{"\x00\x80", 0, 1},
		{"\x05abc", 5, 1},
		{"\x7f\xff\xff\xff\xff\xff", 127, 1},
		{"\x80\x01", 128, 2},
		{"\x80\x01\x00", 128, 2},
		{"\xac\x02\xac\x02", 300, 2},
		{"\x80\x80\x01", 1 << 14, 3},
		{"\x81\x80\x01", 1<<14 + 1, 3},
		{"\xff\xff\xff\x7f\xff", 1<<28 - 1, 4},
		{"\x80\x80\x80\x80\x01", 1 << 28, 5},
		{"\x80\x80\x80\x80\x07", 7 << 28, 5},
		{"\xff\xff\xff\xff\x07", 1<<31 - 1, 5},
		{"\xff\xff\xff\xff\x07\xff", 1<<31 - 1, 5},
		{"\x81\x82\x83\x84\x05", 1 + 2<<7 + 3<<14 + 4<<21 + 5<<28, 5},
	} {
		if n, size, e := Get(x.s); n != x.n || size != x.size || e != api.OK {
			t.Errorf("%x: %d %d %d, not %d %d", x.s, n, size, e, x.n, x.size)
		}
	}
}

func TestGetErrors(t *testing.T) {
	for _, x := range []struct {
		name, s string
		want    api.Errno
	}{
		{"nothing", "", api.ErrShort},
		{"one, no last", "\x80", api.ErrShort},
		{"two, no last", "\xff\x81", api.ErrShort},
		{"three, no last", "\x80\x80\x80", api.ErrShort},
		{"four, no last", "\xff\xff\xff\xff", api.ErrShort},
		{"five, no last", "\xff\xff\xff\xff\xff", api.ErrForm},
		{"five, no last, no bits", "\x80\x80\x80\x80\x80", api.ErrForm},
		{"the sixth is the last", "\x80\x80\x80\x80\x80\x01", api.ErrForm},
		{"the sixth is the last, 0", "\x81\x80\x80\x80\x80\x00", api.ErrForm},
		{"no last at all", strings.Repeat("\xff", 1000), api.ErrForm},
		{"a last one far behind", strings.Repeat("\x80", 1000) + "\x01", api.ErrForm},
		{"0 of two", "\x80\x00", api.ErrForm},
		{"1 of two", "\x81\x00", api.ErrForm},
		{"127 of two", "\xff\x00", api.ErrForm},
		{"0 of five", "\x80\x80\x80\x80\x00", api.ErrForm},
		{"300 of three", "\xac\x82\x00", api.ErrForm},
		{"2^28-1 of five", "\xff\xff\xff\xff\x00", api.ErrForm},
		{"2^31", "\x80\x80\x80\x80\x08", api.ErrForm},
		{"2^32-1", "\xff\xff\xff\xff\x0f", api.ErrForm},
		{"2^32", "\x80\x80\x80\x80\x10", api.ErrForm},
		{"2^32+1", "\x81\x80\x80\x80\x10", api.ErrForm},
		{"2^35-1", "\xff\xff\xff\xff\x7f", api.ErrForm},
	} {
		if n, size, e := Get(x.s); n != 0 || size != 0 || e != x.want {
			t.Errorf("%s: %d %d %d, not %d", x.name, n, size, e, x.want)
		}
	}
}

// testNumber tests that n is put as the library puts it, and is got again, whatever is behind it.
func testNumber(t *testing.T, n int) {
	t.Helper()
	s, e := Put(n)
	if want := string(binary.AppendUvarint(nil, uint64(n))); s != want || e != api.OK {
		t.Fatalf("%d: %x %d, not %x", n, s, e, want)
	}
	for _, behind := range []string{"", "\x00", "x", "\x80", "\xff\xff\xff\xff\xff\xff"} {
		if m, size, e := Get(s + behind); m != n || size != len(s) || e != api.OK {
			t.Fatalf("%x and %x: %d %d %d, not %d %d", s, behind, m, size, e, n, len(s))
		}
	}
	for i := range len(s) {
		if m, size, e := Get(s[:i]); m != 0 || size != 0 || e != api.ErrShort {
			t.Fatalf("%x: %d %d %d", s[:i], m, size, e)
		}
	}
}

func TestPutAndGet(t *testing.T) {
	for _, n := range bounds() {
		testNumber(t, n)
	}
	for n := range 1 << 16 {
		testNumber(t, n)
	}
	r := rand.New(rand.NewSource(1))
	for range 100000 {
		testNumber(t, int(r.Int31())>>r.Intn(31))
	}
}

// got is what Get should tell, asked as the chapter says it: by Put.
func got(s string) (int, int, api.Errno) {
	size := 0
	for size < len(s) && s[size] >= 128 {
		size++
	}
	if size >= 5 {
		return 0, 0, api.ErrForm
	}
	if size == len(s) {
		return 0, 0, api.ErrShort
	}
	n, _ := binary.Uvarint([]byte(s))
	written, e := Put(int(n))
	if e != api.OK || written != s[:size+1] {
		return 0, 0, api.ErrForm
	}
	return int(n), size + 1, api.OK
}

func testText(t *testing.T, s string) {
	t.Helper()
	n, size, e := Get(s)
	if n2, size2, e2 := got(s); n != n2 || size != size2 || e != e2 {
		t.Fatalf("%x: %d %d %d, not %d %d %d", s, n, size, e, n2, size2, e2)
	}
}

func TestGetEveryShortText(t *testing.T) {
	for i := range 1 << 16 {
		testText(t, string([]byte{byte(i), byte(i >> 8)}))
	}
	few := []byte{0, 1, 7, 8, 15, 16, 127, 128, 129, 255}
	var grow func(b []byte)
	grow = func(b []byte) {
		testText(t, string(b))
		if len(b) == 6 {
			return
		}
		for _, x := range few {
			grow(append(b, x))
		}
	}
	grow(nil)
}
