package code

import (
	"encoding/binary"
	"math"
	"math/rand"
	"slices"
	"strings"
	"testing"
	"unsafe"

	"scrivenry/api"
	"scrivenry/part"
)

func keep(n int) api.Part { return api.Part{Kind: api.Keep, N: n} }

func cut(n int) api.Part { return api.Part{Kind: api.Cut, N: n} }

func put(s string) api.Part { return api.Part{Kind: api.Put, Text: s} }

func parts(l ...api.Part) []api.Part { return l }

func bytesOf(n int) string { return strings.Repeat("x", n) }

func times(n int, l ...api.Part) []api.Part { return slices.Repeat(l, n) }

type pair struct {
	name string
	d    []api.Part
	s    string
}

func pairs() []pair {
	return []pair{
		{"nothing", nil, "\x00"},
		{"keep", parts(keep(1)), "\x01\x05"},
		{"put", parts(put("a")), "\x01\x06a"},
		{"cut", parts(cut(1)), "\x01\x07"},
		{"all kinds", parts(keep(2), put("ab"), cut(3)), "\x03\x09\x0aab\x0f"},
		{"all kinds, again", parts(put("x"), cut(1), keep(1), cut(2), keep(3), put("yz")), "\x06\x06x\x07\x05\x0b\x0d\x0ayz"},
		{"a text like a part", parts(put("\x06a"), keep(1)), "\x02\x0a\x06a\x05"},
		{"any bytes", parts(put("\x00\xff\x80"), cut(1)), "\x02\x0e\x00\xff\x80\x07"},
		{"bytes, not runes", parts(put("\u00e9")), "\x01\x0a\xc3\xa9"},
		{"one byte", parts(keep(31)), "\x01\x7d"},
		{"two bytes", parts(keep(32)), "\x01\x81\x01"},
		{"put 31", parts(put(bytesOf(31))), "\x01\x7e" + bytesOf(31)},
		{"put 32", parts(put(bytesOf(32))), "\x01\x82\x01" + bytesOf(32)},
		{"keep 500", parts(keep(500)), "\x01\xd1\x0f"},
		{"cut 500", parts(cut(500)), "\x01\xd3\x0f"},
		{"put 500", parts(put(bytesOf(500))), "\x01\xd2\x0f" + bytesOf(500)},
		{"put 500, cut 500", parts(put(bytesOf(500)), cut(500)), "\x02\xd2\x0f" + bytesOf(500) + "\xd3\x0f"},
		{"127 parts", times(127, keep(1), put("a"))[:127], "\x7f" + strings.Repeat("\x05\x06a", 63) + "\x05"},
		{"128 parts", times(64, put("a"), keep(1)), "\x80\x01" + strings.Repeat("\x06a\x05", 64)},
		{"750 parts", times(250, put("a"), cut(1), keep(1)), "\xee\x05" + strings.Repeat("\x06a\x07\x05", 250)},
	}
}

func TestWrite(t *testing.T) {
	for _, x := range pairs() {
		if s, e := Write(x.d); s != x.s || e != api.OK {
			t.Errorf("%s: %.60x %d, not %.60x", x.name, s, e, x.s)
		}
	}
	if s, e := Write(parts()); s != "\x00" || e != api.OK {
		t.Errorf("an empty list: %x %d", s, e)
	}
}

func TestRead(t *testing.T) {
	for _, x := range pairs() {
		if d, e := Read(x.s); !slices.Equal(d, x.d) || e != api.OK {
			t.Errorf("%s: %.60v %d, not %.60v", x.name, d, e, x.d)
		}
	}
}

func TestWriteErrors(t *testing.T) {
	for _, x := range []struct {
		name string
		d    []api.Part
		want api.Errno
	}{
		{"no kind", parts(api.Part{}), api.ErrForm},
		{"kind 4", parts(api.Part{Kind: 4, N: 1}), api.ErrForm},
		{"kind below 0", parts(api.Part{Kind: -1, N: 1}), api.ErrForm},
		{"keep 0", parts(keep(0)), api.ErrForm},
		{"cut 0", parts(cut(0)), api.ErrForm},
		{"put nothing", parts(put("")), api.ErrForm},
		{"keep below 0", parts(keep(-1)), api.ErrForm},
		{"least", parts(cut(math.MinInt)), api.ErrForm},
		{"a text too many", parts(api.Part{Kind: api.Keep, N: 1, Text: "a"}), api.ErrForm},
		{"a number too many", parts(api.Part{Kind: api.Put, N: 1, Text: "a"}), api.ErrForm},
		{"keep, keep", parts(keep(1), keep(1)), api.ErrForm},
		{"put, put", parts(put("a"), put("b")), api.ErrForm},
		{"cut, cut", parts(cut(1), cut(1)), api.ErrForm},
		{"cut, put", parts(cut(1), put("a")), api.ErrForm},
		{"1600, wrong", make([]api.Part, 1600), api.ErrForm},
		{"1601, wrong", make([]api.Part, 1601), api.ErrLarge},
		{"1600, too large as one", times(800, put("a"), keep(1)), api.ErrLarge},
		{"keep 501", parts(keep(501)), api.ErrLarge},
		{"put 501", parts(put(bytesOf(501))), api.ErrLarge},
		{"cut most", parts(cut(math.MaxInt)), api.ErrLarge},
		{"of 501", parts(keep(250), cut(251)), api.ErrLarge},
		{"to 501", parts(keep(250), put(bytesOf(251))), api.ErrLarge},
	} {
		if s, e := Write(x.d); s != "" || e != x.want {
			t.Errorf("%s: %.60x %d, not %d", x.name, s, e, x.want)
		}
	}
}

// loose writes parts as Write does, whether they are a delta or not.
func loose(l ...api.Part) string {
	b := binary.AppendUvarint(nil, uint64(len(l)))
	for _, p := range l {
		b = binary.AppendUvarint(b, uint64(4*(p.N+len(p.Text))+p.Kind))
		b = append(b, p.Text...)
	}
	return string(b)
}

func TestReadErrors(t *testing.T) {
	for _, x := range []struct{ name, s string }{
		{"nothing", ""},
		{"no end of the count", "\x80"},
		{"no end of the count, long", strings.Repeat("\xff", 50)},
		{"a count too long by a byte", "\x80\x00"},
		{"a count too long by a byte, and a part", "\x81\x00\x05"},
		{"a count above 2^31-1", "\x81\x80\x80\x80\x10\x05"},
		{"no part", "\x01"},
		{"a part too few", "\x02\x05"},
		{"a part too many", "\x01\x05\x06a"},
		{"a part, and none is there", "\x00\x05"},
		{"a byte too many", "\x01\x05x"},
		{"a byte too many, 0", "\x00\x00"},
		{"no end of a part", "\x01\x85"},
		{"no end of a part, long", "\x01" + strings.Repeat("\x81", 50)},
		{"a part too long by a byte", "\x01\x85\x00"},
		{"a part above 2^31-1", "\x01\x85\x80\x80\x80\x10"},
		{"a text too short", "\x01\x0aa"},
		{"a text too long", "\x01\x06ab"},
		{"no text", "\x01\x06"},
		{"a text that is longest", "\x01\xfe\xff\xff\xff\x07a"},
		{"most parts", "\xff\xff\xff\xff\x07"},
		{"most parts, some there", "\xff\xff\xff\xff\x07" + strings.Repeat("\x05", 2000)},
		{"keep most", "\x01\xfd\xff\xff\xff\x07"},
		{"cut most", "\x01\xff\xff\xff\xff\x07"},
		{"kind 0", "\x01\x04"},
		{"kind 0, N 0", "\x01\x00"},
		{"keep 0", "\x01\x01"},
		{"put nothing", "\x01\x02"},
		{"cut 0", "\x01\x03"},
		{"keep, keep", "\x02\x05\x05"},
		{"put, put", "\x02\x06a\x06b"},
		{"cut, cut", "\x02\x07\x07"},
		{"cut, put", "\x02\x07\x06a"},
		{"wrong at the end", "\x03\x05\x06a\x04"},
		{"keep 501", loose(keep(501))},
		{"cut 501", loose(cut(501))},
		{"put 501", loose(put(bytesOf(501)))},
		{"of 501", loose(keep(250), cut(251))},
		{"to 501", loose(keep(250), put(bytesOf(251)))},
		{"1600 parts", loose(times(800, put("a"), keep(1))...)},
		{"1601 parts", loose(times(801, put("a"), keep(1))[:1601]...)},
		{"written twice", "\x01\x05\x01\x05"},
		{"a large text", strings.Repeat("\x05", 1<<20)},
	} {
		if d, e := Read(x.s); d != nil || e != api.ErrForm {
			t.Errorf("%s: %.60v %d", x.name, d, e)
		}
	}
}

// everyDelta calls f with each delta of the parts that is written as at most n bytes.
func everyDelta(n int, few []api.Part, f func(d []api.Part)) {
	var grow func(d []api.Part)
	grow = func(d []api.Part) {
		if part.Check(d) != api.OK || len(loose(d...)) > n {
			return
		}
		f(d)
		for _, p := range few {
			grow(append(slices.Clone(d), p))
		}
	}
	grow(nil)
}

// everyText calls f with each text of at most n of the letters.
func everyText(n int, letters string, f func(s string)) {
	var grow func(s string)
	grow = func(s string) {
		f(s)
		if len(s) == n {
			return
		}
		for i := range len(letters) {
			grow(s + letters[i:i+1])
		}
	}
	grow("")
}

func TestReadEveryShortText(t *testing.T) {
	const letters = "\x00\x01\x02\x03\x04\x05\x06\x07\x0a\x80\x81"
	const longest = 6
	// These parts are all whose bytes are letters, and that have room.
	few := parts(keep(1), cut(1))
	everyText(2, letters, func(s string) { few = append(few, put(s)) })
	for _, high := range []int{1, 2, 3, 4, 5, 6, 7, 10} {
		for low := range 2 {
			n := low + high<<7
			if n%4 == api.Keep || n%4 == api.Cut {
				few = append(few, api.Part{Kind: n % 4, N: n / 4})
			}
		}
	}
	written := map[string][]api.Part{}
	everyDelta(longest, few, func(d []api.Part) { written[loose(d...)] = d })
	found := 0
	everyText(longest, letters, func(s string) {
		d, e := Read(s)
		want, ok := written[s]
		if !ok && (d != nil || e != api.ErrForm) || ok && (!slices.Equal(d, want) || e != api.OK) {
			t.Fatalf("%x: %v %d, not %v", s, d, e, want)
		}
		if ok {
			found++
		}
	})
	if found < 100 {
		t.Errorf("only %d deltas were read", found)
	}
}

func testDelta(t *testing.T, d []api.Part) {
	t.Helper()
	s, e := Write(d)
	if s != loose(d...) || e != api.OK {
		t.Fatalf("%.60v: %.60x %d", d, s, e)
	}
	again, e := Read(s)
	if !slices.Equal(again, d) || e != api.OK {
		t.Fatalf("%.60v: read as %.60v %d", d, again, e)
	}
	for i := range len(s) {
		if l, e := Read(s[:i]); l != nil || e != api.ErrForm {
			t.Fatalf("%.60v: its first %d bytes are read as %.60v %d", d, i, l, e)
		}
	}
	if l, e := Read(s + "\x00"); l != nil || e != api.ErrForm {
		t.Fatalf("%.60v: with a byte behind it is read as %.60v %d", d, l, e)
	}
}

func TestWriteAndReadShortDeltas(t *testing.T) {
	few := parts(keep(1), keep(200), cut(1), cut(200), put("a"), put("\x05\x07"))
	everyDelta(9, few, func(d []api.Part) { testDelta(t, d) })
}

// anyDelta has parts of many lengths, as many as there is room for.
func anyDelta(r *rand.Rand) []api.Part {
	var l []api.Part
	for range r.Intn(40) {
		text := make([]byte, r.Intn(1+r.Intn(40)))
		r.Read(text)
		more := append(l, keep(r.Intn(1+r.Intn(40))), put(string(text)), cut(r.Intn(1+r.Intn(40))))
		if _, e := part.Norm(more); e == api.OK {
			l = more
		}
	}
	d, _ := part.Norm(l)
	return d
}

func TestWriteAndReadLongDeltas(t *testing.T) {
	r := rand.New(rand.NewSource(1))
	for range 500 {
		testDelta(t, anyDelta(r))
	}
}

// What is read of a text with some bytes changed is written as that text, or there is none.
func TestReadChangedTexts(t *testing.T) {
	r := rand.New(rand.NewSource(1))
	right := 0
	for range 10000 {
		b := []byte(loose(anyDelta(r)...))
		for range 1 + r.Intn(3) {
			b[r.Intn(len(b))] ^= 1 << r.Intn(8)
		}
		d, e := Read(string(b))
		if e != api.OK {
			if d != nil || e != api.ErrForm {
				t.Fatalf("%x: %v %d", b, d, e)
			}
			continue
		}
		right++
		if part.Check(d) != api.OK || loose(d...) != string(b) {
			t.Fatalf("%x: read as %v", b, d)
		}
	}
	if right == 0 {
		t.Error("none was read")
	}
}

func TestReadTakesNoRoomForPartsThatAreTooMany(t *testing.T) {
	s := "\xff\xff\xff\xff\x07" + strings.Repeat("\x05", 1<<22)
	if n := testing.AllocsPerRun(10, func() { Read(s) }); n > 0 {
		t.Errorf("%v times memory was taken", n)
	}
}

func TestNothingHandedInIsChanged(t *testing.T) {
	room := parts(keep(1), put("xy"), cut(2), keep(1), put("spare"), put("room"))
	was := slices.Clone(room)
	for n := range len(room) + 1 {
		Write(room[:n])
	}
	if !slices.Equal(room, was) {
		t.Errorf("%v is changed", room)
	}
}

// inside tells if t's bytes are some of those of s.
func inside(s, t string) bool {
	from := uintptr(unsafe.Pointer(unsafe.StringData(s)))
	at := uintptr(unsafe.Pointer(unsafe.StringData(t)))
	return from <= at && at < from+uintptr(len(s))
}

func TestReadAnswersNewMemory(t *testing.T) {
	s := loose(put(bytesOf(40)), keep(1), put(bytesOf(41)), cut(1))
	first, _ := Read(s)
	if inside(s, first[0].Text) || inside(s, first[2].Text) {
		t.Error("a text that is put lies in what was handed in")
	}
	second, _ := Read(s)
	was := slices.Clone(second[:cap(second)])
	for i := range first[:cap(first)] {
		first[:cap(first)][i] = put("mine")
	}
	if !slices.Equal(second[:cap(second)], was) {
		t.Error("two answers share memory")
	}
	if third, _ := Read(s); !slices.Equal(third, second) {
		t.Error("what was done to an answer is seen in a later one")
	}
}

func TestWriteAnswersNewMemory(t *testing.T) {
	text := bytesOf(40)
	if s, _ := Write(parts(put(text))); inside(s, text) || inside(text, s) {
		t.Error("what is written shares memory with what was handed in")
	}
}
