package serve_test

import (
	"encoding/binary"
	"fmt"
	"hash/crc32"
	"reflect"
	"strings"
	"testing"

	"scrivenry/api"
	"scrivenry/serve"
	"scrivenry/shop"
)

const most = 1<<31 - 1

type table = [8]api.Sess

func keep(n int) api.Part { return api.Part{Kind: api.Keep, N: n} }

func cut(n int) api.Part { return api.Part{Kind: api.Cut, N: n} }

func put(s string) api.Part { return api.Part{Kind: api.Put, Text: s} }

func parts(l ...api.Part) []api.Part { return l }

func bytesOf(n int) string { return strings.Repeat("x", n) }

func rev(who, seq int, l ...api.Part) api.Rev { return api.Rev{Who: who, Seq: seq, Delta: l} }

func msg(base, who, seq int, l ...api.Part) api.Msg {
	return api.Msg{Base: base, Who: who, Seq: seq, Delta: l}
}

// framed has the bytes of a frame, by the library.
func framed(kind byte, body string) string {
	b := binary.BigEndian.AppendUint16([]byte{kind}, uint16(len(body)))
	b = append(b, body...)
	sum := crc32.Checksum(b, crc32.MakeTable(crc32.Castagnoli))
	return string(binary.LittleEndian.AppendUint32(b, sum))
}

// opened is an archive whose log begins so, and has no revisions yet.
func opened(t *testing.T, base int, text string, first table) *shop.Shop {
	t.Helper()
	b := binary.AppendUvarint([]byte{1}, uint64(base))
	for _, x := range first {
		b = binary.AppendUvarint(binary.AppendUvarint(b, uint64(x.Seq)), uint64(x.Rev))
	}
	s, e := shop.Open(api.Disk{Slots: [2]api.Slot{{Data: framed(1, string(b)+text) + framed(3, "")}}})
	if e != api.OK {
		t.Fatalf("open: %d", e)
	}
	return s
}

// with is an archive that begins at revision 0, with a text, and has these revisions.
func with(t *testing.T, text string, l ...api.Rev) *shop.Shop {
	t.Helper()
	s := opened(t, 0, text, table{})
	for i, r := range l {
		if n, e := s.Add(r); n != i+1 || e != api.OK {
			t.Fatalf("add %.60v: %d %d", r, n, e)
		}
	}
	return s
}

// from is the archive, with all ahead of floor left out.
func from(t *testing.T, s *shop.Shop, floor int) *shop.Shop {
	t.Helper()
	if e := s.Keep(floor); e != api.OK {
		t.Fatalf("keep from %d: %d", floor, e)
	}
	for s.Step() {
	}
	return s
}

// answers are all that an archive tells.
type answers struct {
	disk             api.Disk
	base, head, safe int
	last             table
	texts            []string
	revs             []api.Rev
}

// plain has nil for each list that has nothing in it.
func plain(l []api.Rev) []api.Rev {
	var p []api.Rev
	for _, r := range l {
		if len(r.Delta) == 0 {
			r.Delta = nil
		}
		p = append(p, r)
	}
	return p
}

func ask(t *testing.T, s *shop.Shop) answers {
	t.Helper()
	a := answers{disk: s.Disk(), base: s.Base(), head: s.Head(), safe: s.Safe()}
	for who := range a.last {
		a.last[who], _ = s.Last(who)
	}
	l, e := s.Revs(a.base)
	if e != api.OK || len(l) != a.head-a.base {
		t.Fatalf("%d revisions from %d to %d: %d", len(l), a.base, a.head, e)
	}
	a.revs = plain(l)
	for r := range len(l) + 1 {
		x, e := s.Text(a.base + r)
		if e != api.OK {
			t.Fatalf("text %d: %d", a.base+r, e)
		}
		a.texts = append(a.texts, x)
	}
	return a
}

// same looks that nothing was done to the archive.
func same(t *testing.T, name string, s *shop.Shop, was answers) {
	t.Helper()
	if now := ask(t, s); !reflect.DeepEqual(now, was) {
		t.Fatalf("%s: %.600q, not %.600q", name, fmt.Sprint(now), fmt.Sprint(was))
	}
}

// adds looks that m is added with this delta, and that nothing else is done.
func adds(t *testing.T, name string, s *shop.Shop, m api.Msg, left []api.Part, text string) {
	t.Helper()
	want := ask(t, s)
	n, e := serve.Submit(s, m)
	if n != want.head+1 || e != api.OK {
		t.Fatalf("%s: %d %d, not %d", name, n, e, want.head+1)
	}
	now := ask(t, s)
	want.head = n
	want.last[m.Who] = api.Sess{Seq: m.Seq, Rev: n}
	want.texts = append(want.texts, text)
	want.revs = plain(append(want.revs, rev(m.Who, m.Seq, left...)))
	want.disk = now.disk // What is said there is the archive's own business: here it is what comes back.
	if !reflect.DeepEqual(now, want) {
		t.Fatalf("%s: %.600q, not %.600q", name, fmt.Sprint(now), fmt.Sprint(want))
	}
	again, e := shop.Open(now.disk)
	if e != api.OK {
		t.Fatalf("%s: open: %d", name, e)
	}
	if l, _ := again.Revs(want.base); !reflect.DeepEqual(plain(l), want.revs) {
		t.Fatalf("%s: opened again: %.300v", name, l)
	}
}

// fails looks that m is refused, and that nothing is done.
func fails(t *testing.T, name string, s *shop.Shop, m api.Msg, want api.Errno) {
	t.Helper()
	was := ask(t, s)
	if n, e := serve.Submit(s, m); n != 0 || e != want {
		t.Errorf("%s: %.100q: %d %d, not %d", name, fmt.Sprint(m), n, e, want)
	}
	same(t, name, s, was)
}

// twice looks that m is told to be revision want, and that nothing is done.
func twice(t *testing.T, name string, s *shop.Shop, m api.Msg, want int) {
	t.Helper()
	was := ask(t, s)
	if n, e := serve.Submit(s, m); n != want || e != api.OK {
		t.Errorf("%s: %.100q: %d %d, not %d", name, fmt.Sprint(m), n, e, want)
	}
	same(t, name, s, was)
}
