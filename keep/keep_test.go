package keep

import (
	"math"
	"math/rand"
	"slices"
	"testing"

	"scrivenry/api"
)

const most = 1<<31 - 1

func pins(l ...int) []int { return l }

// below and above are numbers that no policy may have.
func below() []int { return []int{-1, -2, -most, math.MinInt32, math.MinInt} }

func above() []int { return []int{most + 1, most + 2, 1 << 32, 1<<32 + 1, math.MaxInt} }

func outside() []int { return append(below(), above()...) }

func TestCheckTakesAllInTheirBounds(t *testing.T) {
	for _, last := range []int{1, 2, 640, most - 1, most} {
		for _, every := range []int{0, 1, 2, 641, most - 1, most} {
			for _, l := range [][]int{nil, pins(), pins(0), pins(most), pins(5, 5, 0, most, 3), make([]int, 15), make([]int, 16)} {
				if e := Check(api.Policy{Last: last, Every: every, Pins: l}); e != api.OK {
					t.Errorf("%d %d %v: %d", last, every, l, e)
				}
			}
		}
	}
}

// wrongPolicy is one with an error.
type wrongPolicy struct {
	p    api.Policy
	want api.Errno
}

func wrongNumbers() []wrongPolicy {
	var l []wrongPolicy
	for _, pins := range [][]int{nil, pins(1), pins(-1), make([]int, 17)} {
		for _, n := range append(outside(), 0) {
			l = append(l, wrongPolicy{api.Policy{Last: n, Pins: pins}, api.ErrArg})
			l = append(l, wrongPolicy{api.Policy{Last: n, Every: 3, Pins: pins}, api.ErrArg})
			l = append(l, wrongPolicy{api.Policy{Last: n, Every: -3, Pins: pins}, api.ErrArg})
		}
		for _, n := range outside() {
			l = append(l, wrongPolicy{api.Policy{Last: 1, Every: n, Pins: pins}, api.ErrArg})
			l = append(l, wrongPolicy{api.Policy{Last: most, Every: n, Pins: pins}, api.ErrArg})
		}
	}
	return l
}

func wrongPins() []wrongPolicy {
	right := func(l []int) api.Policy { return api.Policy{Last: 1, Every: 2, Pins: l} }
	var l []wrongPolicy
	for _, n := range []int{17, 18, 1000} {
		many := make([]int, n)
		l = append(l, wrongPolicy{right(many), api.ErrLarge})
		for _, at := range []int{0, 16, n - 1} {
			bad := slices.Clone(many)
			bad[at] = -1
			l = append(l, wrongPolicy{right(bad), api.ErrLarge})
		}
	}
	for _, n := range outside() {
		for at := range 16 {
			bad := make([]int, 16)
			bad[at] = n
			l = append(l, wrongPolicy{right(bad), api.ErrArg}, wrongPolicy{right(bad[at:]), api.ErrArg})
		}
	}
	return l
}

func wrongPolicies() []wrongPolicy { return append(wrongNumbers(), wrongPins()...) }

func TestCheckErrors(t *testing.T) {
	for _, x := range wrongPolicies() {
		if e := Check(x.p); e != x.want {
			t.Errorf("%v: %d, not %d", x.p, e, x.want)
		}
	}
}

type keepCase struct {
	p    api.Policy
	head int
	want []int
}

func keepCases() []keepCase {
	return []keepCase{
		{api.Policy{Last: 2, Every: 4, Pins: pins(3)}, 9, pins(0, 3, 4, 8, 9)},
		{api.Policy{Last: 1}, 0, pins(0)},
		{api.Policy{Last: 1}, 9, pins(9)},
		{api.Policy{Last: 3}, 9, pins(7, 8, 9)},
		{api.Policy{Last: 9}, 9, pins(1, 2, 3, 4, 5, 6, 7, 8, 9)},
		{api.Policy{Last: 10}, 9, pins(0, 1, 2, 3, 4, 5, 6, 7, 8, 9)},
		{api.Policy{Last: 11}, 9, pins(0, 1, 2, 3, 4, 5, 6, 7, 8, 9)},
		{api.Policy{Last: most}, 3, pins(0, 1, 2, 3)},
		{api.Policy{Last: most, Every: most, Pins: pins(most)}, 0, pins(0)},
		{api.Policy{Last: 1, Every: 1}, 4, pins(0, 1, 2, 3, 4)},
		{api.Policy{Last: 1, Every: 2}, 4, pins(0, 2, 4)},
		{api.Policy{Last: 1, Every: 2}, 5, pins(0, 2, 4, 5)},
		{api.Policy{Last: 1, Every: 5}, 5, pins(0, 5)},
		{api.Policy{Last: 1, Every: 6}, 5, pins(0, 5)},
		{api.Policy{Last: 1, Every: most}, 5, pins(0, 5)},
		{api.Policy{Last: 1, Pins: pins(0)}, 5, pins(0, 5)},
		{api.Policy{Last: 1, Pins: pins(5)}, 5, pins(5)},
		{api.Policy{Last: 1, Pins: pins(6)}, 5, pins(5)},
		{api.Policy{Last: 1, Pins: pins(most)}, 5, pins(5)},
		{api.Policy{Last: 1, Pins: pins(3, 1, 3, 6, 1, 5)}, 5, pins(1, 3, 5)},
		{api.Policy{Last: 2, Every: 3, Pins: pins(7, 6, 4)}, 7, pins(0, 3, 4, 6, 7)},
		{api.Policy{Last: 2, Every: 300, Pins: pins(640, 641, 5)}, 640, pins(0, 5, 300, 600, 639, 640)},
	}
}

func TestOf(t *testing.T) {
	for _, x := range keepCases() {
		if l, e := Of(x.p, x.head); e != api.OK || !slices.Equal(l, x.want) {
			t.Errorf("%v, %d: %v %d, not %v", x.p, x.head, l, e, x.want)
		}
		if n, e := Floor(x.p, x.head); e != api.OK || n != x.want[0] {
			t.Errorf("%v, %d: floor %d %d, not %d", x.p, x.head, n, e, x.want[0])
		}
	}
}

// gathered finds what is kept rule by rule, where the program goes revision by revision.
func gathered(p api.Policy, head int) []int {
	var l []int
	for n := 0; n < p.Last && n <= head; n++ {
		l = append(l, head-n)
	}
	for n := 0; p.Every > 0 && n <= head; n += p.Every {
		l = append(l, n)
	}
	for _, n := range p.Pins {
		if n <= head {
			l = append(l, n)
		}
	}
	slices.Sort(l)
	return slices.Compact(l)
}

func testPolicy(t *testing.T, p api.Policy, head int) {
	t.Helper()
	want := gathered(p, head)
	if l, e := Of(p, head); e != api.OK || !slices.Equal(l, want) {
		t.Errorf("%v, %d: %v %d, not %v", p, head, l, e, want)
	}
	if n, e := Floor(p, head); e != api.OK || n != slices.Min(want) {
		t.Errorf("%v, %d: floor %d %d, not %d", p, head, n, e, slices.Min(want))
	}
}

func TestEverySmallPolicy(t *testing.T) {
	for head := range 8 {
		for last := 1; last < 10; last++ {
			for every := range 10 {
				testPolicy(t, api.Policy{Last: last, Every: every}, head)
				for a := range 9 {
					testPolicy(t, api.Policy{Last: last, Every: every, Pins: pins(a)}, head)
					testPolicy(t, api.Policy{Last: last, Every: every, Pins: pins(a, 8-a, 2)}, head)
				}
			}
		}
	}
}

func TestEveryHead(t *testing.T) {
	r := rand.New(rand.NewSource(35))
	for head := range 641 {
		for range 10 {
			// Numbers of all sizes: small ones, some about head, and great ones.
			some := func() int { return r.Intn([]int{3, 20, head + 3, most}[r.Intn(4)]) }
			p := api.Policy{Last: 1 + some(), Every: some()}
			for range r.Intn(17) {
				p.Pins = append(p.Pins, some())
			}
			testPolicy(t, p, head)
		}
	}
}

func TestHeadErrors(t *testing.T) {
	p := api.Policy{Last: 2, Every: 4, Pins: pins(3)}
	for _, head := range append(outside(), 641, 642, 1000, most) {
		if l, e := Of(p, head); l != nil || e != api.ErrArg {
			t.Errorf("%d: %v %d", head, l, e)
		}
		if n, e := Floor(p, head); n != 0 || e != api.ErrArg {
			t.Errorf("%d: %d %d", head, n, e)
		}
	}
}

func TestCheckErrorsAheadOfHeads(t *testing.T) {
	for _, x := range wrongPolicies() {
		for _, head := range []int{0, 9, 640, 641, -1, math.MinInt, math.MaxInt} {
			if l, e := Of(x.p, head); l != nil || e != x.want {
				t.Errorf("%v, %d: %v %d, not %d", x.p, head, l, e, x.want)
			}
			if n, e := Floor(x.p, head); n != 0 || e != x.want {
				t.Errorf("%v, %d: %d %d, not %d", x.p, head, n, e, x.want)
			}
		}
	}
}

func TestPinsAreNotChanged(t *testing.T) {
	room := pins(7, 3, 3, 99, 0, 5, 41, 42, 43)
	was := slices.Clone(room)
	for n := range len(room) + 1 {
		p := api.Policy{Last: 2, Every: 4, Pins: room[:n]}
		Check(p)
		Of(p, 9)
		Of(p, 641)
		Floor(p, 9)
	}
	if !slices.Equal(room, was) {
		t.Errorf("%v, not %v", room, was)
	}
}

func TestAnswerIsNewMemory(t *testing.T) {
	room := pins(0, 1, 2, 3, 41, 42)
	was := slices.Clone(room)
	p := api.Policy{Last: 1, Pins: room[:4]}
	l, _ := Of(p, 3)
	again, _ := Of(p, 3)
	for i := range l[:cap(l)] {
		l[:cap(l)][i] = 77
	}
	if !slices.Equal(room, was) || !slices.Equal(again, pins(0, 1, 2, 3)) {
		t.Errorf("the answer shares memory: %v %v", room, again)
	}
	for i := range room {
		room[i] = 2
	}
	if !slices.Equal(again, pins(0, 1, 2, 3)) {
		t.Errorf("%v hangs on pins that were changed later", again)
	}
	if later, e := Of(p, 3); e != api.OK || !slices.Equal(later, pins(2, 3)) {
		t.Errorf("%v %d hangs on an earlier call", later, e)
	}
}
