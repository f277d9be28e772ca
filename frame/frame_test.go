package frame

import (
	"encoding/binary"
	"fmt"
	"hash/crc32"
	"math"
	"math/rand"
	"slices"
	"strings"
	"testing"
	"unsafe"

	"scrivenry/api"
)

// loose has the bytes of a frame, by the library, whatever its kind and the number of its bytes
// are said to be.
func loose(kind byte, n int, body string) string {
	b := binary.BigEndian.AppendUint16([]byte{kind}, uint16(n))
	b = append(b, body...)
	sum := crc32.Checksum(b, crc32.MakeTable(crc32.Castagnoli))
	return string(binary.LittleEndian.AppendUint32(b, sum))
}

func framed(kind byte, body string) string { return loose(kind, len(body), body) }

// show tells frames in a test's complaint, cut short.
func show(l ...api.Frame) string {
	s := ""
	for _, f := range l[:min(len(l), 5)] {
		s += fmt.Sprintf("{%d %.20q}", f.Kind, f.Body)
	}
	return fmt.Sprintf("%d: %s", len(l), s)
}

func anyText(r *rand.Rand, n int) string {
	b := make([]byte, n)
	r.Read(b)
	return string(b)
}

// sizes are the numbers of bytes at which something is another.
var sizes = []int{0, 1, 2, 3, 4, 6, 7, 127, 128, 254, 255, 256, 257, 511, 512, 513, 3839, 3840, 3999, 4000}

func TestPut(t *testing.T) {
	for _, x := range []struct {
		name string
		f    api.Frame
		want string
	}{
		{"no body", api.Frame{Kind: 3}, "\x03\x00\x00\x09\x63\x4a\x8a"},
		{"two bytes", api.Frame{Kind: 2, Body: "ab"}, framed(2, "ab")},
		{"a head", api.Frame{Kind: api.FHead, Body: "\x00"}, framed(1, "\x00")},
		{"the greatest kind", api.Frame{Kind: 255, Body: "x"}, framed(255, "x")},
		{"a kind that has no name", api.Frame{Kind: 128, Body: "x"}, framed(128, "x")},
		{"bytes, not runes", api.Frame{Kind: 1, Body: "\xc3\xa9\xff\x00"}, framed(1, "\xc3\xa9\xff\x00")},
		{"a frame", api.Frame{Kind: 1, Body: framed(2, "ab")}, framed(1, framed(2, "ab"))},
	} {
		if s, e := Put(x.f); s != x.want || e != api.OK {
			t.Errorf("%s: %x %d, not %x", x.name, s, e, x.want)
		}
	}
}

// The higher of the two bytes is first, the lowest of the four.
func TestPutOrder(t *testing.T) {
	body := strings.Repeat("b", 0x0203)
	s, e := Put(api.Frame{Kind: 1, Body: body})
	if e != api.OK || len(s) != 7+len(body) || s[:3] != "\x01\x02\x03" || s[3:3+len(body)] != body {
		t.Fatalf("%.20x %d", s, e)
	}
	sum := crc32.Checksum([]byte(s[:3+len(body)]), crc32.MakeTable(crc32.Castagnoli))
	for i := range 4 {
		if s[3+len(body)+i] != byte(sum>>(8*i)) {
			t.Errorf("byte %d of the sum %08x is %x", i, sum, s[3+len(body)+i])
		}
	}
}

func TestPutErrors(t *testing.T) {
	for _, kind := range []int{0, -1, -255, -256, 256, 257, 511, 512, 1<<16 + 1, 1<<32 + 1, math.MinInt, math.MaxInt} {
		for _, n := range []int{0, 2, 4000, 4001, 1<<16 + 2} {
			if s, e := Put(api.Frame{Kind: kind, Body: strings.Repeat("b", n)}); s != "" || e != api.ErrArg {
				t.Errorf("kind %d, %d bytes: %.20x %d", kind, n, s, e)
			}
		}
	}
	for _, kind := range []int{1, 2, 3, 255} {
		for _, n := range []int{4001, 4002, 1<<16 - 1, 1 << 16, 1<<16 + 2, 1 << 20} {
			if s, e := Put(api.Frame{Kind: kind, Body: strings.Repeat("b", n)}); s != "" || e != api.ErrLarge {
				t.Errorf("kind %d, %d bytes: %.20x %d", kind, n, s, e)
			}
		}
	}
}

func TestGetErrors(t *testing.T) {
	ab := framed(2, "ab")
	turned := []byte(ab)
	slices.Reverse(turned[5:])
	for _, x := range []struct {
		name, s string
		want    api.Errno
	}{
		{"nothing", "", api.ErrShort},
		{"one byte", "\x02", api.ErrShort},
		{"six bytes", "\x03\x00\x00\x09\x63\x4a", api.ErrShort},
		{"six bytes, the first 0", "\x00\x00\x00\x00\x00\x00", api.ErrShort},
		{"six bytes, a body too large", "\x01\xff\xff\x00\x00\x00", api.ErrShort},
		{"seven bytes, the first 0", "\x00\x00\x00\x00\x00\x00\x00", api.ErrForm},
		{"the first 0, the sum right", loose(0, 0, ""), api.ErrForm},
		{"the first 0, a body, the sum right", loose(0, 2, "ab"), api.ErrForm},
		{"the first 0, the body not there", "\x00\x00\x05abcd", api.ErrForm},
		{"a body too large, not there", "\x01\x0f\xa1\x00\x00\x00\x00", api.ErrForm},
		{"a body too large, the sum right", framed(1, strings.Repeat("b", 4001)), api.ErrForm},
		{"a body too large by far", framed(1, strings.Repeat("b", 1<<16-1)), api.ErrForm},
		{"the largest body, not there", "\x01\x0f\xa0\x00\x00\x00\x00", api.ErrShort},
		{"the largest body, but a byte", framed(1, strings.Repeat("b", 4000))[:4006], api.ErrShort},
		{"a byte too few", ab[:8], api.ErrShort},
		{"a body, and no sum", "\x02\x00\x04abcd", api.ErrShort},
		{"a number too large by one", "\x03\x00\x01\x09\x63\x4a\x8a", api.ErrShort},
		{"another sum", ab[:8] + string([]byte{ab[8] ^ 1}), api.ErrSum},
		{"another sum, of no body", "\x03\x00\x00\x09\x63\x4a\x8b", api.ErrSum},
		{"no sum", "\x03\x00\x00\x00\x00\x00\x00", api.ErrSum},
		{"the sum the other way round", string(turned), api.ErrSum},
		{"another kind", "\x03" + ab[1:], api.ErrSum},
		{"another body", ab[:3] + "ac" + ab[5:], api.ErrSum},
		{"its number the other way round", loose(2, 0x0100, strings.Repeat("b", 0x0001)), api.ErrShort},
		{"a smaller number", loose(2, 1, "ab"), api.ErrSum},
		{"the body's sum alone", ab[:5] + "\x36\x29\xa2\xe2", api.ErrSum},
		{"a byte ahead", "\x01" + ab, api.ErrShort},
	} {
		if f, n, e := Get(x.s); f != (api.Frame{}) || n != 0 || e != x.want {
			t.Errorf("%s: %s %d %d, not %d", x.name, show(f), n, e, x.want)
		}
	}
}

// testFrame tests that f is put as the library has it, and is got again, whatever is behind it,
// and not of fewer bytes.
func testFrame(t *testing.T, f api.Frame) {
	t.Helper()
	s, e := Put(f)
	if want := framed(byte(f.Kind), f.Body); s != want || e != api.OK {
		t.Fatalf("%s: %.60x %d, not %.60x", show(f), s, e, want)
	}
	for _, more := range []string{"", "x", "\x00", s, strings.Repeat("\xff", 5000)} {
		if g, n, e := Get(s + more); g != f || n != len(s) || e != api.OK {
			t.Fatalf("%s and %.60x: %s %d %d", show(f), more, show(g), n, e)
		}
	}
	for i := range len(s) {
		if g, n, e := Get(s[:i]); g != (api.Frame{}) || n != 0 || e != api.ErrShort {
			t.Fatalf("%s: its first %d bytes are %s %d %d", show(f), i, show(g), n, e)
		}
	}
}

func TestPutAndGet(t *testing.T) {
	r := rand.New(rand.NewSource(1))
	for kind := 1; kind <= 255; kind++ {
		testFrame(t, api.Frame{Kind: kind})
		testFrame(t, api.Frame{Kind: kind, Body: anyText(r, r.Intn(100))})
	}
	for _, n := range sizes {
		testFrame(t, api.Frame{Kind: api.FRev, Body: anyText(r, n)})
		testFrame(t, api.Frame{Kind: 255, Body: strings.Repeat("\x00", n)})
		testFrame(t, api.Frame{Kind: 1, Body: strings.Repeat("\xff", n)})
	}
}

// got is what Get should tell, asked as the chapter says it.
func got(s string) (api.Frame, int, api.Errno) {
	if len(s) < 7 {
		return api.Frame{}, 0, api.ErrShort
	}
	n := int(binary.BigEndian.Uint16([]byte(s[1:])))
	switch {
	case s[0] == 0 || n > 4000:
		return api.Frame{}, 0, api.ErrForm
	case len(s) < n+7:
		return api.Frame{}, 0, api.ErrShort
	case framed(s[0], s[3:3+n]) != s[:n+7]:
		return api.Frame{}, 0, api.ErrSum
	}
	return api.Frame{Kind: int(s[0]), Body: s[3 : 3+n]}, n + 7, api.OK
}

func testText(t *testing.T, s string) api.Errno {
	t.Helper()
	f, n, e := Get(s)
	if f2, n2, e2 := got(s); f != f2 || n != n2 || e != e2 {
		t.Fatalf("%.60x: %s %d %d, not %s %d %d", s, show(f), n, e, show(f2), n2, e2)
	}
	return e
}

// A sum tells each single bit that is changed, where the number of bytes still lets it be asked.
func TestGetWithOneBitChanged(t *testing.T) {
	r := rand.New(rand.NewSource(1))
	for _, n := range []int{0, 1, 2, 30, 300} {
		s := framed(byte(1+r.Intn(255)), anyText(r, n))
		for i := range 8 * len(s) {
			b := []byte(s)
			b[i/8] ^= 1 << (i % 8)
			if e := testText(t, string(b)+strings.Repeat("x", 4000)); e == api.OK {
				t.Fatalf("%.60x: bit %d changed, and it is got", s, i)
			}
			testText(t, string(b))
		}
	}
}

func TestGetAnyTexts(t *testing.T) {
	r := rand.New(rand.NewSource(1))
	seen := map[api.Errno]int{}
	for range 20000 {
		kind, n := byte(r.Intn(4)), r.Intn(20)
		s := loose(kind, n, anyText(r, max(0, n+r.Intn(3)-1)))
		if r.Intn(4) == 0 {
			s = anyText(r, r.Intn(30))
		}
		seen[testText(t, s[:len(s)-r.Intn(min(2, len(s)+1))])]++
	}
	for _, e := range []api.Errno{api.OK, api.ErrShort, api.ErrForm, api.ErrSum} {
		if seen[e] == 0 {
			t.Errorf("no text has %d", e)
		}
	}
}

func TestGetEveryLength(t *testing.T) {
	full := strings.Repeat("b", 4004)
	for n := range 1 << 16 {
		head := string([]byte{1, byte(n >> 8), byte(n)})
		want := api.ErrForm
		if n <= 4000 {
			want = api.ErrSum
		}
		if f, size, e := Get(head + full); f != (api.Frame{}) || size != 0 || e != want {
			t.Fatalf("%d bytes: %s %d %d, not %d", n, show(f), size, e, want)
		}
	}
}

func TestScan(t *testing.T) {
	a, b, c := framed(1, "head"), framed(2, ""), framed(255, "\x00\xff")
	fa, fb, fc := api.Frame{Kind: 1, Body: "head"}, api.Frame{Kind: 2}, api.Frame{Kind: 255, Body: "\x00\xff"}
	wrong := a[:len(a)-1] + string([]byte{a[len(a)-1] ^ 128})
	for _, x := range []struct {
		name, s string
		want    []api.Frame
		size    int
	}{
		{"nothing", "", nil, 0},
		{"a byte", "\x01", nil, 0},
		{"no frame", "no frame at all", nil, 0},
		{"one", a, []api.Frame{fa}, len(a)},
		{"one without a body", b, []api.Frame{fb}, 7},
		{"three", a + b + c, []api.Frame{fa, fb, fc}, len(a + b + c)},
		{"one, many times", strings.Repeat(b, 100), slices.Repeat([]api.Frame{fb}, 100), 700},
		{"and a beginning", a + b + c[:8], []api.Frame{fa, fb}, len(a + b)},
		{"and a byte", a + b + "x", []api.Frame{fa, fb}, len(a + b)},
		{"a wrong sum first", wrong + a + b, nil, 0},
		{"a wrong sum within", b + wrong + c, []api.Frame{fb}, len(b)},
		{"a wrong sum last", b + c + wrong, []api.Frame{fb, fc}, len(b + c)},
		{"a byte between", a + "\x00" + b, []api.Frame{fa}, len(a)},
		{"a byte ahead", "\x00" + a + b, nil, 0},
		{"a kind 0 within", a + loose(0, 2, "ab") + b, []api.Frame{fa}, len(a)},
		{"a body too large within", a + framed(1, strings.Repeat("b", 4001)) + b, []api.Frame{fa}, len(a)},
		{"zeros behind", a + strings.Repeat("\x00", 5000), []api.Frame{fa}, len(a)},
		{"a frame in a body", framed(1, a+b) + c, []api.Frame{{Kind: 1, Body: a + b}, fc}, 7 + len(a+b+c)},
	} {
		if l, n := Scan(x.s); !slices.Equal(l, x.want) || n != x.size {
			t.Errorf("%s: %s %d, not %s %d", x.name, show(l...), n, show(x.want...), x.size)
		}
	}
}

// anyLog has frames of many lengths; ends tells where each of them ends.
func anyLog(r *rand.Rand, n int) (s string, l []api.Frame, ends []int) {
	for range n {
		f := api.Frame{Kind: 1 + r.Intn(255), Body: anyText(r, r.Intn(1+r.Intn(60)))}
		s += framed(byte(f.Kind), f.Body)
		l = append(l, f)
		ends = append(ends, len(s))
	}
	return s, l, ends
}

// upTo tells how many of ends are at most n.
func upTo(ends []int, n int) int {
	k := 0
	for k < len(ends) && ends[k] <= n {
		k++
	}
	return k
}

func testScan(t *testing.T, s string, l []api.Frame, size int) {
	t.Helper()
	if g, n := Scan(s); !slices.Equal(g, l) || n != size {
		t.Fatalf("%d frames, %d bytes, not %d, %d", len(g), n, len(l), size)
	}
}

func TestScanOfALogThatLostItsEnd(t *testing.T) {
	s, l, ends := anyLog(rand.New(rand.NewSource(1)), 30)
	for n := range len(s) + 1 {
		k := upTo(ends, n)
		size := 0
		if k > 0 {
			size = ends[k-1]
		}
		testScan(t, s[:n], l[:k], size)
	}
}

func TestScanOfALogWithAByteChanged(t *testing.T) {
	s, l, ends := anyLog(rand.New(rand.NewSource(2)), 30)
	for i := range len(s) {
		b := []byte(s)
		b[i] ^= 0x10
		k := upTo(ends, i)
		size := 0
		if k > 0 {
			size = ends[k-1]
		}
		testScan(t, string(b), l[:k], size)
	}
}

func TestScanOfALongLog(t *testing.T) {
	const n = 1 << 20 / 7
	l, size := Scan(strings.Repeat(framed(3, ""), n))
	if len(l) != n || size != 7*n {
		t.Fatalf("%d frames, %d bytes", len(l), size)
	}
	s := strings.Repeat(framed(2, strings.Repeat("b", 4000)), 300)
	if l, size = Scan(s); len(l) != 300 || size != len(s) {
		t.Fatalf("%d frames, %d bytes", len(l), size)
	}
}

// inside tells if t's bytes are some of those of s.
func inside(s, t string) bool {
	from := uintptr(unsafe.Pointer(unsafe.StringData(s)))
	at := uintptr(unsafe.Pointer(unsafe.StringData(t)))
	return from <= at && at < from+uintptr(len(s))
}

func TestAnswersAreNewMemory(t *testing.T) {
	body := strings.Repeat("body", 20)
	s, _ := Put(api.Frame{Kind: 1, Body: body})
	if inside(s, body) || inside(body, s) {
		t.Error("what is put shares memory with what was handed in")
	}
	if f, _, _ := Get(s); inside(s, f.Body) {
		t.Error("a body that is got lies in what was handed in")
	}
	log := s + s
	l, _ := Scan(log)
	for _, f := range l {
		if inside(log, f.Body) {
			t.Error("a body that is scanned lies in what was handed in")
		}
	}
}

func TestScanAnswersShareNoMemory(t *testing.T) {
	s, _, _ := anyLog(rand.New(rand.NewSource(3)), 5)
	first, _ := Scan(s)
	second, _ := Scan(s)
	was := slices.Clone(second[:cap(second)])
	for i := range first[:cap(first)] {
		first[:cap(first)][i] = api.Frame{Kind: 9, Body: "mine"}
	}
	if !slices.Equal(second[:cap(second)], was) {
		t.Error("two answers share memory")
	}
	if third, _ := Scan(s); !slices.Equal(third, second) {
		t.Error("what was done to an answer is seen in a later one")
	}
}
