package disk

import (
	"fmt"
	"math"
	"math/rand"
	"strings"
	"testing"
	"unsafe"

	"scrivenry/api"
)

const most = 1 << 20

func bytesOf(n int) string { return strings.Repeat("x", n) }

func slot(data string, safe int) api.Slot { return api.Slot{Data: data, Safe: safe} }

func disk(a, b api.Slot) api.Disk { return api.Disk{Slots: [2]api.Slot{a, b}} }

// at is a disk with s in slot i, and other in the other one.
func at(i int, s, other api.Slot) api.Disk {
	if i == 0 {
		return disk(s, other)
	}
	return disk(other, s)
}

// show tells a disk in a test's complaint, cut short.
func show(d api.Disk) string {
	s := ""
	for _, x := range d.Slots {
		s += fmt.Sprintf("{%d: %.20q %d}", len(x.Data), x.Data, x.Safe)
	}
	return s
}

func farOff() []int {
	return []int{-1, -2, 2, 3, 1 << 32, -1 << 32, math.MinInt32, math.MaxInt32, math.MinInt, math.MaxInt}
}

func TestCheckTakesAllInTheirBounds(t *testing.T) {
	right := []api.Slot{{}, slot("ab", 0), slot("ab", 1), slot("ab", 2), slot(bytesOf(most), 0), slot(bytesOf(most), most)}
	for _, a := range right {
		for _, b := range right {
			if e := Check(disk(a, b)); e != api.OK {
				t.Errorf("%s: %d", show(disk(a, b)), e)
			}
		}
	}
}

type wrongDisk struct {
	d    api.Disk
	want api.Errno
}

// wrongDisks have an error of Check's, in one slot or in both.
func wrongDisks() []wrongDisk {
	var large, form []api.Slot
	for _, safe := range []int{0, 1, most, most + 1, most + 2, -1, math.MinInt, math.MaxInt} {
		large = append(large, slot(bytesOf(most+1), safe))
	}
	for _, data := range []string{"", "a", "abc", bytesOf(most)} {
		for _, safe := range []int{-1, -2, len(data) + 1, len(data) + 2, most + 1, math.MinInt, math.MaxInt, 1 << 32} {
			form = append(form, slot(data, safe))
		}
	}
	var l []wrongDisk
	for _, right := range []api.Slot{{}, slot("ab", 1), slot(bytesOf(most), most)} {
		for i := range 2 {
			for _, s := range large {
				l = append(l, wrongDisk{at(i, s, right), api.ErrLarge})
			}
			for _, s := range form {
				l = append(l, wrongDisk{at(i, s, right), api.ErrForm})
			}
		}
	}
	for _, x := range large {
		l = append(l, wrongDisk{disk(x, form[0]), api.ErrLarge}, wrongDisk{disk(form[0], x), api.ErrForm})
	}
	return l
}

func TestCheckErrors(t *testing.T) {
	for _, x := range wrongDisks() {
		if e := Check(x.d); e != x.want {
			t.Errorf("%s: %d, not %d", show(x.d), e, x.want)
		}
	}
}

// fails complains unless an answer is an error, and nothing beside it.
func fails(t *testing.T, name string, d api.Disk, e, want api.Errno) {
	t.Helper()
	if d != (api.Disk{}) || e != want {
		t.Errorf("%s: %s %d, not %d", name, show(d), e, want)
	}
}

// is complains unless an answer is the disk that was asked for.
func is(t *testing.T, name string, d api.Disk, e api.Errno, want api.Disk) {
	t.Helper()
	if d != want || e != api.OK {
		t.Errorf("%s: %s %d, not %s", name, show(d), e, show(want))
	}
}

func TestAllHaveChecksErrorFirst(t *testing.T) {
	for _, x := range wrongDisks() {
		for _, i := range []int{0, 1, 2, -1} {
			d, e := Append(x.d, i, "a")
			fails(t, "append", d, e, x.want)
			d, e = Append(x.d, i, bytesOf(most+1))
			fails(t, "append too much", d, e, x.want)
			d, e = Sync(x.d, i)
			fails(t, "sync", d, e, x.want)
			for _, n := range []int{0, -1, most + 2} {
				d, e = Trim(x.d, i, n)
				fails(t, "trim", d, e, x.want)
			}
		}
		for _, n := range []int{0, -1, 1, math.MinInt, math.MaxInt} {
			d, e := Crash(x.d, [2]int{n, n})
			fails(t, "crash", d, e, x.want)
		}
	}
}

func TestNoSuchSlot(t *testing.T) {
	for _, x := range []api.Disk{{}, disk(slot("ab", 1), slot("abc", 3)), disk(slot(bytesOf(most), 0), slot(bytesOf(most), most))} {
		for _, i := range farOff() {
			for _, s := range []string{"", "a", bytesOf(most), bytesOf(most + 1)} {
				d, e := Append(x, i, s)
				fails(t, "append", d, e, api.ErrArg)
			}
			d, e := Sync(x, i)
			fails(t, "sync", d, e, api.ErrArg)
			for _, n := range []int{0, 1, -1, math.MaxInt} {
				d, e = Trim(x, i, n)
				fails(t, "trim", d, e, api.ErrArg)
			}
		}
	}
}

// others are what may lie in the slot that is not asked for.
func others() []api.Slot {
	return []api.Slot{{}, slot("other", 0), slot("other", 3), slot("other", 5), slot(bytesOf(most), 7)}
}

func TestAppend(t *testing.T) {
	for i := range 2 {
		for _, o := range others() {
			for _, x := range []struct {
				name string
				was  api.Slot
				s    string
				want api.Slot
			}{
				{"nothing to nothing", api.Slot{}, "", api.Slot{}},
				{"to nothing", api.Slot{}, "ab", slot("ab", 0)},
				{"nothing", slot("ab", 1), "", slot("ab", 1)},
				{"none is safe", slot("ab", 0), "cd", slot("abcd", 0)},
				{"some is safe", slot("ab", 1), "cd", slot("abcd", 1)},
				{"all is safe", slot("ab", 2), "cd", slot("abcd", 2)},
				{"any bytes", slot("\xff\x00", 2), "\x00\xc3", slot("\xff\x00\x00\xc3", 2)},
				{"as much as there may be, at once", api.Slot{}, bytesOf(most), slot(bytesOf(most), 0)},
				{"the last byte", slot(bytesOf(most-1), 5), "x", slot(bytesOf(most), 5)},
				{"nothing to all that there may be", slot(bytesOf(most), most), "", slot(bytesOf(most), most)},
			} {
				d, e := Append(at(i, x.was, o), i, x.s)
				is(t, x.name, d, e, at(i, x.want, o))
			}
		}
	}
}

func TestAppendTooMuch(t *testing.T) {
	for i := range 2 {
		for _, o := range others() {
			for _, n := range []int{0, 1, 2, most / 2, most - 1, most} {
				for _, more := range []int{1, 2, most} {
					d, e := Append(at(i, slot(bytesOf(n), n/2), o), i, bytesOf(most-n+more))
					fails(t, "append", d, e, api.ErrLarge)
				}
			}
		}
	}
}

func TestSync(t *testing.T) {
	for i := range 2 {
		for _, o := range others() {
			for _, s := range []string{"", "a", "abc", "\x00\xff", bytesOf(most)} {
				for _, safe := range []int{0, len(s) / 2, len(s)} {
					d, e := Sync(at(i, slot(s, safe), o), i)
					is(t, "sync", d, e, at(i, slot(s, len(s)), o))
				}
			}
		}
	}
}

func TestTrim(t *testing.T) {
	for i := range 2 {
		for _, o := range others() {
			for _, s := range []string{"", "a", "abcdef"} {
				for safe := range len(s) + 1 {
					for n := range len(s) + 1 {
						d, e := Trim(at(i, slot(s, safe), o), i, n)
						is(t, fmt.Sprint(s, safe, n), d, e, at(i, slot(s[:n], min(safe, n)), o))
					}
				}
			}
		}
	}
	d, e := Trim(disk(slot(bytesOf(most), most), api.Slot{}), 0, most)
	is(t, "nothing, of most", d, e, disk(slot(bytesOf(most), most), api.Slot{}))
	d, e = Trim(disk(slot(bytesOf(most), most), api.Slot{}), 0, most-1)
	is(t, "a byte, of most", d, e, disk(slot(bytesOf(most-1), most-1), api.Slot{}))
}

func TestTrimErrors(t *testing.T) {
	for i := range 2 {
		for _, o := range others() {
			for _, s := range []string{"", "a", "abc", bytesOf(most)} {
				for _, n := range []int{-1, -2, len(s) + 1, len(s) + 2, most + 1, 1 << 32, math.MinInt, math.MaxInt} {
					d, e := Trim(at(i, slot(s, len(s)/2), o), i, n)
					fails(t, "trim", d, e, api.ErrArg)
				}
			}
		}
	}
}

func TestCrash(t *testing.T) {
	for _, x := range []struct {
		name string
		was  api.Slot
		keep int
		want string
	}{
		{"nothing there", api.Slot{}, 0, ""},
		{"nothing there, all kept", api.Slot{}, 5, ""},
		{"nothing there, below 0", api.Slot{}, -5, ""},
		{"none is safe, none kept", slot("abcd", 0), 0, ""},
		{"none is safe, below 0", slot("abcd", 0), -1, ""},
		{"none is safe, some kept", slot("abcd", 0), 3, "abc"},
		{"none is safe, all kept", slot("abcd", 0), 4, "abcd"},
		{"none is safe, more kept", slot("abcd", 0), 5, "abcd"},
		{"some is safe, none kept", slot("abcd", 2), 0, "ab"},
		{"some is safe, below 0", slot("abcd", 2), -1, "ab"},
		{"some is safe, far below 0", slot("abcd", 2), math.MinInt, "ab"},
		{"some is safe, some kept", slot("abcd", 2), 1, "abc"},
		{"some is safe, all kept", slot("abcd", 2), 2, "abcd"},
		{"some is safe, more kept", slot("abcd", 2), 3, "abcd"},
		{"some is safe, far more kept", slot("abcd", 2), math.MaxInt, "abcd"},
		{"some is safe, 2^32 kept", slot("abcd", 2), 1 << 32, "abcd"},
		{"all is safe, none kept", slot("abcd", 4), 0, "abcd"},
		{"all is safe, below 0", slot("abcd", 4), -3, "abcd"},
		{"all is safe, more kept", slot("abcd", 4), math.MaxInt, "abcd"},
		{"as much as there may be", slot(bytesOf(most), 9), most - 10, bytesOf(most - 1)},
		{"any bytes", slot("\xff\x00\xc3\xa9", 1), 2, "\xff\x00\xc3"},
	} {
		want := slot(x.want, len(x.want))
		d, e := Crash(disk(x.was, slot("other", 2)), [2]int{x.keep, 1})
		is(t, x.name, d, e, disk(want, slot("oth", 3)))
		d, e = Crash(disk(slot("other", 2), x.was), [2]int{1, x.keep})
		is(t, x.name+", slot 1", d, e, disk(slot("oth", 3), want))
	}
}

// cell is a byte on a disk.
type cell struct {
	b    byte
	safe bool
}

// told is the disk of which these are the bytes.
func told(cells [2][]cell) api.Disk {
	var d api.Disk
	for i, l := range cells {
		for _, c := range l {
			d.Slots[i].Data += string([]byte{c.b})
			if c.safe {
				d.Slots[i].Safe++
			}
		}
	}
	return d
}

func crashed(l []cell, keep int) []cell {
	var left []cell
	for _, c := range l {
		if c.safe || keep > 0 {
			left = append(left, cell{c.b, true})
		}
		if !c.safe {
			keep--
		}
	}
	return left
}

// A disk is what its bytes are, whatever is done to it, and in whatever order.
func TestAnyHistory(t *testing.T) {
	r := rand.New(rand.NewSource(1))
	for range 300 {
		var cells [2][]cell
		var d api.Disk
		for range 40 {
			i, e := r.Intn(2), api.OK
			switch r.Intn(5) {
			case 0, 1:
				s := string([]byte{byte(r.Intn(256)), byte(r.Intn(256)), byte(r.Intn(256))}[:r.Intn(4)])
				for _, b := range []byte(s) {
					cells[i] = append(cells[i], cell{b, false})
				}
				d, e = Append(d, i, s)
			case 2:
				for j := range cells[i] {
					cells[i][j].safe = true
				}
				d, e = Sync(d, i)
			case 3:
				n := r.Intn(len(cells[i]) + 1)
				cells[i] = cells[i][:n]
				d, e = Trim(d, i, n)
			case 4:
				keep := [2]int{r.Intn(8) - 2, r.Intn(8) - 2}
				for j := range cells {
					cells[j] = crashed(cells[j], keep[j])
				}
				d, e = Crash(d, keep)
			}
			if want := told(cells); d != want || e != api.OK || Check(d) != api.OK {
				t.Fatalf("%s %d, not %s", show(d), e, show(want))
			}
		}
	}
}

// inside tells if t's bytes are some of those of s.
func inside(s, t string) bool {
	if s == "" || t == "" {
		return false
	}
	from := uintptr(unsafe.Pointer(unsafe.StringData(s)))
	at := uintptr(unsafe.Pointer(unsafe.StringData(t)))
	return from <= at && at < from+uintptr(len(s))
}

// testOwn tests that no text of an answer is one that was handed in.
func testOwn(t *testing.T, name string, answer api.Disk, given ...string) {
	t.Helper()
	for _, x := range answer.Slots {
		for _, s := range given {
			if inside(s, x.Data) || inside(x.Data, s) {
				t.Errorf("%s: an answer shares memory with what was handed in", name)
			}
		}
	}
	if inside(answer.Slots[0].Data, answer.Slots[1].Data) {
		t.Errorf("%s: both slots share memory", name)
	}
}

func TestAnswersAreNewMemory(t *testing.T) {
	a, b, s := bytesOf(40), bytesOf(50), bytesOf(60)
	for i := range 2 {
		both := disk(slot(a, 3), slot(b, 4))
		for _, more := range []string{"", s} {
			d, _ := Append(both, i, more)
			testOwn(t, "append", d, a, b, s)
			d, _ = Append(api.Disk{}, i, more)
			testOwn(t, "append to nothing", d, s)
		}
		d, _ := Sync(both, i)
		testOwn(t, "sync", d, a, b)
		for _, n := range []int{0, 1, 2, 40} {
			d, _ = Trim(both, i, n)
			testOwn(t, "trim", d, a, b)
		}
		d, _ = Sync(disk(slot(a, 3), slot(a, 4)), i)
		testOwn(t, "sync, one text in both", d, a)
	}
	for _, keep := range []int{-1, 0, 1, 100} {
		d, _ := Crash(disk(slot(a, 3), slot(b, 4)), [2]int{keep, keep})
		testOwn(t, "crash", d, a, b)
		d, _ = Crash(disk(slot(a, 40), slot(a, 40)), [2]int{keep, keep})
		testOwn(t, "crash, one text in both", d, a)
	}
}
