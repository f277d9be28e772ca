package shop_test

import (
	"encoding/binary"
	"fmt"
	"hash/crc32"
	"math"
	"reflect"
	"strings"
	"testing"

	"scrivenry/api"
	"scrivenry/shop"
)

const most = 1<<31 - 1

type table = [8]api.Sess

func keep(n int) api.Part { return api.Part{Kind: api.Keep, N: n} }

func cut(n int) api.Part { return api.Part{Kind: api.Cut, N: n} }

func put(s string) api.Part { return api.Part{Kind: api.Put, Text: s} }

func parts(l ...api.Part) []api.Part { return l }

func bytesOf(n int) string { return strings.Repeat("x", n) }

func rev(who, seq int, l ...api.Part) api.Rev { return api.Rev{Who: who, Seq: seq, Delta: l} }

// framed has the bytes of a frame, by the library.
func framed(kind byte, body string) string {
	b := binary.BigEndian.AppendUint16([]byte{kind}, uint16(len(body)))
	b = append(b, body...)
	sum := crc32.Checksum(b, crc32.MakeTable(crc32.Castagnoli))
	return string(binary.LittleEndian.AppendUint32(b, sum))
}

// nums has the bytes of numbers, by the library.
func nums(l ...int) string {
	var b []byte
	for _, n := range l {
		b = binary.AppendUvarint(b, uint64(n))
	}
	return string(b)
}

func headOf(gen, base int, text string, first table) string {
	s := nums(gen, base)
	for _, x := range first {
		s += nums(x.Seq, x.Rev)
	}
	return framed(1, s+text)
}

func revOf(r api.Rev) string {
	s := nums(r.Who, r.Seq, len(r.Delta))
	for _, p := range r.Delta {
		s += nums(4*(p.N+len(p.Text))+p.Kind) + p.Text
	}
	return framed(2, s)
}

func revsOf(l ...api.Rev) string {
	s := ""
	for _, r := range l {
		s += revOf(r)
	}
	return s
}

const done = "\x03\x00\x00\x09\x63\x4a\x8a"

// safe is a slot that has lost nothing.
func safe(data string) api.Slot { return api.Slot{Data: data, Safe: len(data)} }

// pair is a disk with these two slots.
func pair(a, b api.Slot) api.Disk { return api.Disk{Slots: [2]api.Slot{a, b}} }

// at is a disk with s in slot i, and other in the other one.
func at(i int, s, other api.Slot) api.Disk {
	if i == 0 {
		return pair(s, other)
	}
	return pair(other, s)
}

// open is the archive on a disk that is right.
func open(t *testing.T, d api.Disk) *shop.Shop {
	t.Helper()
	s, e := shop.Open(d)
	if s == nil || e != api.OK {
		t.Fatalf("open: %d", e)
	}
	return s
}

// add adds a revision that may be added.
func add(t *testing.T, s *shop.Shop, r api.Rev) {
	t.Helper()
	want := s.Head() + 1
	if n, e := s.Add(r); n != want || e != api.OK {
		t.Fatalf("add %.60v: %d %d, not %d", r, n, e, want)
	}
}

func step(t *testing.T, s *shop.Shop) {
	t.Helper()
	if !s.Step() {
		t.Fatal("there is no step")
	}
}

// answers are all that an archive tells.
type answers struct {
	disk             api.Disk
	base, head, safe int
	last             table
	texts            []string
	revs             []api.Rev
}

// plain has nil for each list that has nothing in it.
func plain(l []api.Rev) []api.Rev {
	var p []api.Rev
	for _, r := range l {
		if len(r.Delta) == 0 {
			r.Delta = nil
		}
		p = append(p, r)
	}
	return p
}

func ask(t *testing.T, s *shop.Shop) answers {
	t.Helper()
	a := answers{disk: s.Disk(), base: s.Base(), head: s.Head(), safe: s.Safe()}
	if a.head < a.base || a.head > a.base+64 {
		t.Fatalf("base %d, head %d", a.base, a.head)
	}
	for who := range a.last {
		x, e := s.Last(who)
		if e != api.OK {
			t.Fatalf("last of %d: %d", who, e)
		}
		a.last[who] = x
	}
	l, e := s.Revs(a.base)
	if e != api.OK || len(l) != a.head-a.base {
		t.Fatalf("%d revisions behind %d: %d", len(l), a.base, e)
	}
	a.revs = plain(l)
	for r := a.base; r <= a.head; r++ {
		x, e := s.Text(r)
		if e != api.OK {
			t.Fatalf("text %d: %d", r, e)
		}
		a.texts = append(a.texts, x)
		l, e := s.Revs(r)
		if e != api.OK || !reflect.DeepEqual(plain(l), plain(a.revs[r-a.base:])) {
			t.Fatalf("revisions behind %d: %.300v %d", r, l, e)
		}
	}
	askOutside(t, s)
	return a
}

// askOutside asks for what is not there.
func askOutside(t *testing.T, s *shop.Shop) {
	t.Helper()
	for r, want := range map[int]api.Errno{
		s.Base() - 1: api.ErrGone, s.Base() - 2: api.ErrGone, -most: api.ErrGone, math.MinInt: api.ErrGone,
		s.Head() + 1: api.ErrFuture, s.Head() + 2: api.ErrFuture, 1 << 32: api.ErrFuture, math.MaxInt: api.ErrFuture,
	} {
		if x, e := s.Text(r); x != "" || e != want {
			t.Fatalf("text %d: %.60q %d, not %d", r, x, e, want)
		}
		if l, e := s.Revs(r); len(l) != 0 || e != want {
			t.Fatalf("revisions behind %d: %.60v %d, not %d", r, l, e, want)
		}
	}
	for _, who := range []int{-1, 8, 9, 256, 1 << 32, -1 << 32, math.MinInt, math.MaxInt} {
		if x, e := s.Last(who); x != (api.Sess{}) || e != api.ErrArg {
			t.Fatalf("last of %d: %v %d", who, x, e)
		}
	}
}

// show tells answers in a test's complaint, cut short.
func show(a answers) string {
	s := fmt.Sprintf("base %d head %d safe %d last %v texts %.100q revs %.200v", a.base, a.head, a.safe, a.last, a.texts, a.revs)
	for _, x := range a.disk.Slots {
		s += fmt.Sprintf(" {%d bytes, %d safe: %.300x}", len(x.Data), x.Safe, x.Data)
	}
	return s
}

func is(t *testing.T, name string, s *shop.Shop, want answers) {
	t.Helper()
	got := ask(t, s)
	want.revs = plain(want.revs)
	if !reflect.DeepEqual(got, want) {
		t.Fatalf("%s:\n%s, not\n%s", name, show(got), show(want))
	}
}
