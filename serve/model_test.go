package serve_test

import (
	"fmt"
	"math/rand"
	"reflect"
	"slices"
	"testing"

	"scrivenry/api"
	"scrivenry/apply"
	"scrivenry/disk"
	"scrivenry/part"
	"scrivenry/serve"
	"scrivenry/shop"
)

// places tells what d does place by place: what it puts there, and if it cuts the byte there.
func places(d []api.Part) (puts []string, cuts []bool) {
	puts = []string{""}
	for _, p := range d {
		puts[len(puts)-1] += p.Text
		for range p.N {
			puts, cuts = append(puts, ""), append(cuts, p.Kind == api.Cut)
		}
	}
	return puts, cuts
}

// behind is what is left of mine behind r, by the words of P9 and P10.
func behind(r, mine []api.Part) ([]api.Part, bool) {
	puts, cuts := places(r)
	myPuts, myCuts := places(mine)
	var l []api.Part
	for i := range puts {
		for range len(puts[i]) {
			l = append(l, keep(1))
		}
		l = append(l, put(myPuts[i]))
		switch {
		case i == len(cuts) || cuts[i]:
		case myCuts[i]:
			l = append(l, cut(1))
		default:
			l = append(l, keep(1))
		}
	}
	d, e := part.Norm(l)
	return d, e == api.OK
}

// model is an archive; texts and revs are all that it ever had, by their numbers.
type model struct {
	base  int
	texts []string
	revs  []api.Rev
}

func newModel() *model { return &model{texts: []string{""}, revs: []api.Rev{{}}} }

func (m *model) head() int { return len(m.revs) - 1 }

// last tells a hand's last number, and which revision that was.
func (m *model) last(who int) (seq, n int) {
	for i := m.head(); i > 0; i-- {
		if m.revs[i].Who == who {
			return m.revs[i].Seq, i
		}
	}
	return 0, 0
}

func (m *model) submit(x api.Msg) (int, api.Errno) {
	if x.Who < 0 || x.Who > 7 || x.Seq < 0 || x.Seq > most {
		return 0, api.ErrArg
	}
	if e := part.Check(x.Delta); e != api.OK {
		return 0, e
	}
	seq, n := m.last(x.Who)
	switch {
	case x.Seq == seq && seq > 0:
		return n, api.OK
	case x.Seq <= seq:
		return 0, api.ErrSeq
	case x.Base < m.base:
		return 0, api.ErrGone
	case x.Base > m.head():
		return 0, api.ErrFuture
	case apply.Fits(x.Delta, len(m.texts[x.Base])) != api.OK:
		return 0, api.ErrLen
	}
	d := x.Delta
	for _, r := range m.revs[x.Base+1:] {
		ok := true
		if d, ok = behind(r.Delta, d); !ok {
			return 0, api.ErrLarge
		}
	}
	if m.head() >= m.base+64 {
		return 0, api.ErrFull
	}
	text, _ := apply.Do(d, m.texts[m.head()])
	m.texts, m.revs = append(m.texts, text), append(m.revs, rev(x.Who, x.Seq, d...))
	return m.head(), api.OK
}

func anyText(r *rand.Rand, n int) string {
	b := make([]byte, n)
	r.Read(b)
	return string(b)
}

// anyDelta is of a text of n bytes, and makes one of at most 500. Each of what it puts has less than
// grow bytes, and the less it may put the more it cuts.
func anyDelta(r *rand.Rand, n, grow int) []api.Part {
	var l []api.Part
	room := (500 - n) / (1 + r.Intn(12))
	puts := func() {
		k := r.Intn(2) * r.Intn(min(grow, room+1))
		room -= k
		l = append(l, put(anyText(r, k)))
	}
	for left := n; left > 0; {
		puts()
		p := keep(1 + r.Intn(min(left, 1+r.Intn(20))))
		left -= p.N
		if r.Intn(3+room/60) == 0 {
			p.Kind = api.Cut
			room += p.N
		}
		l = append(l, p)
	}
	puts()
	d, _ := part.Norm(l)
	return d
}

// anyMsg is mostly one that may be added.
func anyMsg(r *rand.Rand, m *model, grow int) api.Msg {
	base := m.head() - r.Intn(min(m.head()-m.base+1, 1+r.Intn(9)))
	who, size := r.Intn(8), len(m.texts[base])
	seq, _ := m.last(who)
	x := api.Msg{Base: base, Who: who, Seq: seq + 1 + r.Intn(3), Delta: anyDelta(r, size, grow)}
	switch r.Intn(30) {
	case 0:
		x.Seq -= 3
	case 1:
		x.Seq = seq
	case 2:
		x.Delta = anyDelta(r, (size+1)%501, grow)
	case 3:
		x.Base = m.head() + 1
	case 4:
		x.Base = m.base - 1
	case 5:
		x.Who = 8
	case 6:
		x.Delta = append(x.Delta, keep(0))
	}
	return x
}

// is looks that the archive has what the model has.
func is(t *testing.T, s *shop.Shop, m *model) {
	t.Helper()
	a := ask(t, s)
	if a.head != m.head() || a.base != m.base || !slices.Equal(a.texts, m.texts[m.base:]) || !reflect.DeepEqual(a.revs, plain(m.revs[m.base+1:])) {
		t.Fatalf("from %d to %d: %.600q, not %.600q from %d to %d", a.base, a.head, fmt.Sprint(a.revs), fmt.Sprint(m.revs[m.base+1:]), m.base, m.head())
	}
	for who := range 8 {
		seq, n := m.last(who)
		if a.last[who] != (api.Sess{Seq: seq, Rev: n}) {
			t.Fatalf("last of %d: %v, not %d %d", who, a.last[who], seq, n)
		}
	}
}

// moved is the archive, moved, and at times crashed.
func moved(t *testing.T, r *rand.Rand, s *shop.Shop, m *model) *shop.Shop {
	t.Helper()
	if r.Intn(2) == 0 {
		m.base += r.Intn(m.head() - m.base + 1)
		from(t, s, m.base)
	}
	if r.Intn(2) == 0 {
		return s
	}
	d, _ := disk.Crash(s.Disk(), [2]int{r.Intn(300), r.Intn(300)})
	o, e := shop.Open(d)
	if e != api.OK || o.Head() < s.Safe() || o.Head() > s.Head() {
		t.Fatalf("open: %d", e)
	}
	m.texts, m.revs = m.texts[:o.Head()+1], m.revs[:o.Head()+1]
	return o
}

func TestAnyHistory(t *testing.T) {
	r := rand.New(rand.NewSource(50))
	var count [api.ErrWord + 1]int
	for i := range 45 {
		s, m := shop.New(), newModel()
		grow := []int{8, 40, 300}[i%3]
		for k := range 200 {
			x := anyMsg(r, m, grow)
			if r.Intn(4) == 0 && m.head() > m.base {
				// What was handed in, once more.
				y := m.revs[m.base+1+r.Intn(m.head()-m.base)]
				x = api.Msg{Base: m.base, Who: y.Who, Seq: y.Seq, Delta: y.Delta}
			}
			want, e := m.submit(x)
			if n, f := serve.Submit(s, x); n != want || f != e {
				t.Fatalf("%.300q: %d %d, not %d %d", fmt.Sprint(x), n, f, want, e)
			}
			count[e]++
			if k%9 == 0 {
				is(t, s, m)
			}
			if r.Intn(200) == 0 {
				s = moved(t, r, s, m)
				is(t, s, m)
			}
		}
		is(t, s, m)
	}
	for _, e := range []api.Errno{api.OK, api.ErrArg, api.ErrForm, api.ErrSeq, api.ErrGone, api.ErrFuture, api.ErrLen, api.ErrLarge, api.ErrFull} {
		if count[e] < 20 {
			t.Errorf("%d is answered only %d times", e, count[e])
		}
	}
}

// everyDelta calls f with each delta of a text of n bytes that puts s, or nothing, at each
// place where it can.
func everyDelta(n int, s string, f func(d []api.Part)) {
	var grow func(l []api.Part, left int)
	grow = func(l []api.Part, left int) {
		if left == 0 {
			f(l)
			return
		}
		for _, more := range [][]api.Part{parts(keep(1)), parts(keep(1), put(s)), parts(cut(1))} {
			d, _ := part.Norm(append(slices.Clone(l), more...))
			grow(d, left-1)
		}
	}
	grow(nil, n)
	grow(parts(put(s)), n)
}

func made(d []api.Part) int {
	_, n, _ := part.Sizes(d)
	return n
}

func TestEveryShortHistory(t *testing.T) {
	for n := range 3 {
		everyDelta(n, "x", func(a []api.Part) {
			everyDelta(made(a), "y", func(b []api.Part) {
				everyDelta(n, "Z", func(mine []api.Part) {
					left, _ := behind(a, mine)
					left, _ = behind(b, left)
					s := with(t, "ab"[:n], rev(1, 1, a...), rev(2, 1, b...))
					k, e := serve.Submit(s, msg(0, 3, 1, mine...))
					l, _ := s.Revs(0)
					if k != 3 || e != api.OK || len(l) != 3 || l[2].Who != 3 || l[2].Seq != 1 || !slices.Equal(l[2].Delta, left) {
						t.Fatalf("%v, %v, %v: %d %d: %v, not %v", a, b, mine, k, e, l, left)
					}
				})
			})
		})
	}
}
