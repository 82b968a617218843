package dev_test

import (
	"fmt"
	"math"
	"math/rand/v2"
	"reflect"
	"slices"
	"strings"
	"testing"

	"almanac/api"
	"almanac/dev"
)

const cacheFull = 4096

// block is a block that begins with a text.
func block(s string) string { return s + strings.Repeat("\x00", api.BlockSize-len(s)) }

// device is a device of so many blocks, each beginning with its place, and such a cache.
func device(n int, cache ...api.Wr) api.Dev {
	d := api.Dev{Cache: cache, Left: -1}
	for i := range n {
		d.Blocks = append(d.Blocks, block(fmt.Sprint("home ", i)))
	}
	return d
}

// to is a write.
func to(at int, s string) api.Wr { return api.Wr{At: at, Data: block(s)} }

// left is a device with another Left.
func left(d api.Dev, n int) api.Dev {
	d.Left = n
	return d
}

// dead is a device that has refused.
func dead(d api.Dev) api.Dev {
	d.Left, d.Dead = 0, true
	return d
}

// filled is a device of so many blocks whose cache has so many writes.
func filled(n, writes int) api.Dev {
	d := device(n)
	for i := range writes {
		d.Cache = append(d.Cache, to(i%n, fmt.Sprint("write ", i)))
	}
	return d
}

// own is a device that shares no memory with d.
func own(d api.Dev) api.Dev {
	d.Blocks = append([]string(nil), d.Blocks...)
	d.Cache = append([]api.Wr(nil), d.Cache...)
	return d
}

// alike tells whether two devices are the same, but for a list being nil or empty.
func alike(a, b api.Dev) bool { return reflect.DeepEqual(own(a), own(b)) }

// show is a device in short.
func show(d api.Dev) string {
	var b strings.Builder
	fmt.Fprintf(&b, "left %d dead %v blocks", d.Left, d.Dead)
	for _, s := range d.Blocks[:min(len(d.Blocks), 8)] {
		fmt.Fprintf(&b, " %q", strings.TrimRight(s, "\x00"))
	}
	fmt.Fprintf(&b, " of %d, cache", len(d.Blocks))
	for _, w := range d.Cache[:min(len(d.Cache), 8)] {
		fmt.Fprintf(&b, " %d:%q", w.At, strings.TrimRight(w.Data, "\x00"))
	}
	fmt.Fprintf(&b, " of %d", len(d.Cache))
	return b.String()
}

// fitDevices is devices of all sorts that can be.
func fitDevices() []api.Dev {
	l := []api.Dev{
		device(1),
		device(3),
		device(api.MaxBlocks),
		device(3, to(1, "a")),
		device(3, to(1, "a"), to(2, "b"), to(1, "c"), to(0, "d")),
		filled(2, cacheFull-1),
		filled(2, cacheFull),
	}
	for _, d := range slices.Clone(l) {
		l = append(l, left(d, 0), left(d, 1), left(d, 2), left(d, math.MaxInt), dead(d))
	}
	return l
}

// unfitCase is a device that can't be, and why.
type unfitCase struct {
	name string
	d    api.Dev
}

// unfitDevices is devices that each miss one thing only.
func unfitDevices() []unfitCase {
	short, long := device(3), device(3)
	short.Blocks[0] = short.Blocks[0][1:]
	long.Blocks[2] += "\x00"
	empty := device(3)
	empty.Blocks[1] = ""
	deadWith := func(n int) api.Dev { return left(dead(device(3)), n) }
	return []unfitCase{
		{"the zero device", api.Dev{}},
		{"no blocks", device(0)},
		{"no blocks, but a write", device(0, to(0, "a"))},
		{"too many blocks", device(api.MaxBlocks + 1)},
		{"a short block", short},
		{"a long block", long},
		{"an empty block", empty},
		{"too many writes", filled(3, cacheFull+1)},
		{"a write ahead of the blocks", device(3, to(0, "a"), to(-1, "b"))},
		{"a write behind the blocks", device(3, to(3, "a"), to(0, "b"))},
		{"a write far ahead", device(3, to(math.MinInt, "a"))},
		{"a write far behind", device(3, to(math.MaxInt, "a"))},
		{"a short write", device(3, api.Wr{At: 0, Data: block("")[1:]}, to(0, "a"))},
		{"a long write", device(3, to(0, "a"), api.Wr{At: 0, Data: block("") + "a"})},
		{"an empty write", device(3, api.Wr{At: 0})},
		{"Left below -1", left(device(3), -2)},
		{"Left far below -1", left(device(3), math.MinInt)},
		{"dead with Left -1", deadWith(-1)},
		{"dead with Left 1", deadWith(1)},
	}
}

// places is places at the edges of n blocks, within and beyond.
func places(n int) []int { return []int{math.MinInt, -1, 0, n / 2, n - 1, n, math.MaxInt} }

// TestNew (P2.1).
func TestNew(t *testing.T) {
	for _, n := range []int{1, 2, 3, 120, api.MaxBlocks - 1, api.MaxBlocks} {
		want := api.Dev{Left: -1}
		for range n {
			want.Blocks = append(want.Blocks, strings.Repeat("\x00", 128))
		}
		if got := dev.New(n); !alike(got, want) || !dev.Fit(got) {
			t.Errorf("New(%d) is %s", n, show(got))
		}
	}
	for _, n := range []int{math.MinInt, -1, 0, api.MaxBlocks + 1, math.MaxInt} {
		if got := dev.New(n); !alike(got, api.Dev{}) {
			t.Errorf("New(%d) is %s", n, show(got))
		}
	}
}

// TestNewApart (P2.1): two new devices share nothing.
func TestNewApart(t *testing.T) {
	a, b := dev.New(2), dev.New(2)
	a.Blocks[0] = block("a")
	if b.Blocks[0] != block("") || dev.New(2).Blocks[0] != block("") {
		t.Error("a change of one new device is seen in another one")
	}
}

// TestFit (P2.1).
func TestFit(t *testing.T) {
	for _, d := range fitDevices() {
		if !dev.Fit(d) {
			t.Errorf("Fit is false of %s", show(d))
		}
	}
	for _, c := range unfitDevices() {
		if dev.Fit(c.d) {
			t.Errorf("Fit is true of %s: %s", c.name, show(c.d))
		}
	}
}

// TestSame (P2.1): each device is the same as itself alone, fit or not.
func TestSame(t *testing.T) {
	all := fitDevices()
	for _, c := range unfitDevices() {
		all = append(all, c.d)
	}
	swapped := device(3, to(2, "b"), to(1, "a"), to(1, "c"), to(0, "d"))
	other := device(3)
	other.Blocks[2] = block("x")
	place := device(3, to(2, "a"))
	data := device(3, to(1, "x"))
	all = append(all, swapped, other, place, data, device(2), device(3, to(1, "a"), to(1, "a")))
	for i, a := range all {
		for j, b := range all {
			if dev.Same(a, own(b)) != (i == j) {
				t.Errorf("Same is %v of %s and %s", i != j, show(a), show(b))
			}
		}
	}
}

// TestSameEmpty (P2.1): a list that is nil has the same in it as an empty one.
func TestSameEmpty(t *testing.T) {
	a := api.Dev{Blocks: []string{}, Cache: []api.Wr{}}
	if !dev.Same(a, api.Dev{}) || !dev.Same(api.Dev{}, a) {
		t.Error("Same is false of nil and empty lists")
	}
}

// TestRead (P2.2).
func TestRead(t *testing.T) {
	d := device(4, to(1, "a"), to(2, "b"), to(1, "c"), to(3, "e"), to(1, "d"), to(3, "f"), to(2, ""))
	want := []string{block("home 0"), block("d"), block(""), block("f")}
	for _, d := range []api.Dev{d, left(d, 0), left(d, 5)} {
		for at, w := range want {
			if got, e := dev.Read(d, at); got != w || e != api.OK {
				t.Errorf("Read(%d) = %q, %d, want %q: %s", at, got, e, w, show(d))
			}
		}
	}
}

// TestReadErrors (P2.2).
func TestReadErrors(t *testing.T) {
	for _, d := range fitDevices() {
		n := len(d.Blocks)
		for _, at := range places(n) {
			want := api.OK
			if d.Dead {
				want = api.ErrDead
			} else if at < 0 || at >= n {
				want = api.ErrPlace
			}
			if got, e := dev.Read(d, at); e != want || e != api.OK && got != "" {
				t.Errorf("Read(%d) = %q, %d, want %d: %s", at, got, e, want, show(d))
			}
		}
	}
}

// writeCase is a write and what it tells: the error, and the device behind, if it is not the one ahead.
type writeCase struct {
	name string
	d    api.Dev
	at   int
	data string
	want api.Dev
	e    api.Errno
}

// writeCases is the edges that P2.3 names; where several errors hold, the first one.
func writeCases() []writeCase {
	d := device(2)
	a, short, long := block("a"), block("a")[:127], block("a")+"b"
	full := filled(2, cacheFull)
	nearly := filled(2, cacheFull-1)
	behind := own(nearly)
	behind.Cache = append(behind.Cache, to(1, "a"))
	cached := device(2, to(0, "x"), to(1, "y"))
	return []writeCase{
		{"first place", d, 0, a, device(2, to(0, "a")), api.OK},
		{"last place", d, 1, a, device(2, to(1, "a")), api.OK},
		{"behind the cache's", cached, 0, a, device(2, to(0, "x"), to(1, "y"), to(0, "a")), api.OK},
		{"the same again", device(2, to(0, "a")), 0, a, device(2, to(0, "a"), to(0, "a")), api.OK},
		{"Left 1", left(cached, 1), 0, a, left(device(2, to(0, "x"), to(1, "y"), to(0, "a")), 0), api.OK},
		{"Left 2", left(d, 2), 0, a, left(device(2, to(0, "a")), 1), api.OK},
		{"Left greatest", left(d, math.MaxInt), 0, a, left(device(2, to(0, "a")), math.MaxInt-1), api.OK},
		{"cache nearly full", nearly, 1, a, behind, api.OK},

		{"dead", dead(d), 0, a, dead(d), api.ErrDead},
		{"dead, no place", dead(d), 2, a, dead(d), api.ErrDead},
		{"dead, short data", dead(d), 0, short, dead(d), api.ErrDead},
		{"dead, full", dead(full), 0, a, dead(full), api.ErrDead},
		{"dead, full, no place, no data", dead(full), -1, "", dead(full), api.ErrDead},

		{"place behind", d, 2, a, d, api.ErrPlace},
		{"place ahead", d, -1, a, d, api.ErrPlace},
		{"place far behind", d, math.MaxInt, a, d, api.ErrPlace},
		{"place far ahead", d, math.MinInt, a, d, api.ErrPlace},
		{"short data", d, 0, short, d, api.ErrPlace},
		{"long data", d, 0, long, d, api.ErrPlace},
		{"no data", d, 0, "", d, api.ErrPlace},
		{"place behind, full", full, 2, a, full, api.ErrPlace},
		{"short data, full", full, 0, short, full, api.ErrPlace},
		{"place behind, Left 0", left(d, 0), 2, a, left(d, 0), api.ErrPlace},
		{"long data, Left 0", left(d, 0), 0, long, left(d, 0), api.ErrPlace},
		{"place behind, Left 1", left(d, 1), 2, a, left(d, 1), api.ErrPlace},
		{"no data, full, Left 0", left(full, 0), 0, "", left(full, 0), api.ErrPlace},

		{"full", full, 0, a, full, api.ErrFull},
		{"full, Left 1", left(full, 1), 0, a, left(full, 1), api.ErrFull},
		{"full, Left 0", left(full, 0), 0, a, left(full, 0), api.ErrFull},

		{"Left 0", left(d, 0), 0, a, dead(d), api.ErrIo},
		{"Left 0, cache", left(cached, 0), 0, a, dead(cached), api.ErrIo},
		{"Left 0, cache nearly full", left(nearly, 0), 0, a, dead(nearly), api.ErrIo},
	}
}

// TestWrite (P2.3).
func TestWrite(t *testing.T) {
	for _, c := range writeCases() {
		if got, e := dev.Write(c.d, c.at, c.data); e != c.e || !alike(got, c.want) {
			t.Errorf("%s: error %d, want %d, and %s, want %s", c.name, e, c.e, show(got), show(c.want))
		}
	}
}

// TestFlush (P2.4).
func TestFlush(t *testing.T) {
	cached := device(3, to(1, "a"), to(2, "b"), to(1, "c"))
	done := device(3)
	done.Blocks[1], done.Blocks[2] = block("c"), block("b")
	full := filled(2, cacheFull)
	fullDone := device(2)
	fullDone.Blocks = []string{block("write 4094"), block("write 4095")}
	for _, c := range []struct {
		name    string
		d, want api.Dev
		e       api.Errno
	}{
		{"empty cache", device(3), device(3), api.OK},
		{"empty cache, Left 1", left(device(3), 1), left(device(3), 0), api.OK},
		{"cache", cached, done, api.OK},
		{"cache, Left 1", left(cached, 1), left(done, 0), api.OK},
		{"cache, Left 5", left(cached, 5), left(done, 4), api.OK},
		{"cache, Left greatest", left(cached, math.MaxInt), left(done, math.MaxInt-1), api.OK},
		{"full cache", full, fullDone, api.OK},
		{"dead", dead(cached), dead(cached), api.ErrDead},
		{"dead, empty cache", dead(device(3)), dead(device(3)), api.ErrDead},
		{"Left 0", left(cached, 0), dead(cached), api.ErrIo},
		{"Left 0, empty cache", left(device(3), 0), dead(device(3)), api.ErrIo},
	} {
		if got, e := dev.Flush(c.d); e != c.e || !alike(got, c.want) {
			t.Errorf("%s: error %d, want %d, and %s, want %s", c.name, e, c.e, show(got), show(c.want))
		}
	}
}

// TestCrash (P2.5): what is kept, by hand.
func TestCrash(t *testing.T) {
	d := device(3, to(1, "a"), to(2, "b"), to(1, "c"))
	for _, c := range []struct {
		keep []bool
		want []string
	}{
		{nil, []string{"home 0", "home 1", "home 2"}},
		{[]bool{}, []string{"home 0", "home 1", "home 2"}},
		{[]bool{false, false, false}, []string{"home 0", "home 1", "home 2"}},
		{[]bool{true}, []string{"home 0", "a", "home 2"}},
		{[]bool{false, true}, []string{"home 0", "home 1", "b"}},
		{[]bool{true, true}, []string{"home 0", "a", "b"}},
		{[]bool{false, false, true}, []string{"home 0", "c", "home 2"}},
		{[]bool{true, false, true}, []string{"home 0", "c", "home 2"}},
		{[]bool{true, true, false}, []string{"home 0", "a", "b"}},
		{[]bool{true, true, true}, []string{"home 0", "c", "b"}},
		{[]bool{true, false, false, true, true}, []string{"home 0", "a", "home 2"}},
		{[]bool{true, true, true, true, false, true}, []string{"home 0", "c", "b"}},
	} {
		want := api.Dev{Left: -1}
		for _, s := range c.want {
			want.Blocks = append(want.Blocks, block(s))
		}
		for _, d := range []api.Dev{d, left(d, 0), left(d, 7), dead(d)} {
			if got := dev.Crash(d, c.keep); !alike(got, want) {
				t.Errorf("Crash(%v) is %s, want %s", c.keep, show(got), show(want))
			}
		}
	}
}

// TestCrashAll (P2.5, P2.8): caches of up to five writes to three blocks, whatever is kept of each.
func TestCrashAll(t *testing.T) {
	for writes := range 6 {
		for where := range power(3, writes) {
			d := device(3)
			for i := range writes {
				d.Cache = append(d.Cache, to(where/power(3, i)%3, fmt.Sprint("write ", i)))
			}
			for bits := range power(2, writes) {
				keep := make([]bool, writes)
				for i := range keep {
					keep[i] = bits>>i&1 == 1
				}
				checkCrash(t, d, keep)
				checkCrash(t, d, append(keep, true))
			}
		}
	}
}

// power is b, n times with itself.
func power(b, n int) int {
	p := 1
	for range n {
		p *= b
	}
	return p
}

// checkCrash holds a crash against what P2.5 and P2.8 tell of each block alone.
func checkCrash(t *testing.T, d api.Dev, keep []bool) {
	t.Helper()
	got := dev.Crash(d, keep)
	if !dev.Fit(got) || got.Left != -1 || got.Dead || len(got.Cache) != 0 || len(got.Blocks) != len(d.Blocks) {
		t.Fatalf("Crash(%v) of %s is %s", keep, show(d), show(got))
	}
	for at, b := range got.Blocks {
		want := d.Blocks[at]
		may := []string{want}
		for i, w := range d.Cache {
			if w.At != at {
				continue
			}
			may = append(may, w.Data)
			if i < len(keep) && keep[i] {
				want = w.Data
			}
		}
		if b != want || !slices.Contains(may, b) {
			t.Errorf("Crash(%v) of %s has %q at %d, want %q", keep, show(d), b, at, want)
		}
	}
}

// TestCrashFull (P2.5): a full cache, of which none, all, and some are kept.
func TestCrashFull(t *testing.T) {
	d := filled(7, cacheFull)
	keep := make([]bool, cacheFull+3)
	checkCrash(t, d, keep)
	for i := range keep {
		keep[i] = i%5 == 0
	}
	checkCrash(t, d, keep)
	checkCrash(t, d, keep[:cacheFull-7])
	for i := range keep {
		keep[i] = true
	}
	checkCrash(t, d, keep)
	checkCrash(t, d, keep[:1])
}

// TestArm (P2.6).
func TestArm(t *testing.T) {
	for _, d := range fitDevices() {
		for n, want := range map[int]int{math.MinInt: -1, -2: -1, -1: -1, 0: 0, 1: 1, 4: 4, math.MaxInt: math.MaxInt} {
			behind := left(d, want)
			if d.Dead {
				behind = d
			}
			if got := dev.Arm(d, n); !alike(got, behind) {
				t.Errorf("Arm(%d) of %s is %s", n, show(d), show(got))
			}
		}
	}
}

// TestArmed (P2.3, P2.4, P2.6): a device that is armed takes just so many writes and flushes, whichever, and none behind.
func TestArmed(t *testing.T) {
	for n := range 5 {
		for mix := range 1 << (n + 1) {
			d := dev.Arm(device(2), n)
			for i := range n + 1 {
				want := api.OK
				if i == n {
					want = api.ErrIo
				}
				e := api.OK
				if mix>>i&1 == 1 {
					d, e = dev.Flush(d)
				} else {
					d, e = dev.Write(d, 1, block("a"))
				}
				if e != want {
					t.Errorf("armed with %d, the one numbered %d: error %d, want %d", n, i, e, want)
				}
			}
			checkDead(t, d)
		}
	}
}

// checkDead holds a device that has refused against P2.2, P2.3, P2.4 and P2.6: it stays so till the power goes.
func checkDead(t *testing.T, d api.Dev) {
	t.Helper()
	if !d.Dead || !dev.Fit(d) {
		t.Fatalf("it has refused: %s", show(d))
	}
	_, e := dev.Read(d, 0)
	w, f := dev.Write(d, 0, block("a"))
	l, g := dev.Flush(d)
	a := dev.Arm(d, 9)
	if e != api.ErrDead || f != api.ErrDead || g != api.ErrDead || !alike(w, d) || !alike(l, d) || !alike(a, d) {
		t.Errorf("dead: errors %d, %d, %d, and %s, %s, %s", e, f, g, show(w), show(l), show(a))
	}
	if _, e := dev.Read(dev.Crash(d, nil), 0); e != api.OK {
		t.Errorf("behind the crash: error %d", e)
	}
}

// TestFlushed (P2.7): behind a flush, the durable blocks are what Read told and tells.
func TestFlushed(t *testing.T) {
	for _, d := range fitDevices() {
		f, e := dev.Flush(d)
		if e != api.OK {
			continue
		}
		lost := dev.Crash(f, nil)
		for at := range d.Blocks {
			ahead, _ := dev.Read(d, at)
			behind, e := dev.Read(f, at)
			if f.Blocks[at] != ahead || behind != ahead || lost.Blocks[at] != ahead || e != api.OK {
				t.Fatalf("block %d: read %q ahead of the flush, %q behind, %q behind a crash", at, ahead, behind, lost.Blocks[at])
			}
		}
	}
}

// TestKeepAll (P2.9): a crash that keeps all writes is a flush.
func TestKeepAll(t *testing.T) {
	for _, d := range fitDevices() {
		d = left(d, -1)
		d.Dead = false
		f, e := dev.Flush(d)
		c := dev.Crash(d, slices.Repeat([]bool{true}, len(d.Cache)))
		if e != api.OK || !dev.Same(c, f) {
			t.Errorf("a crash that keeps all is %s, a flush %s", show(c), show(f))
		}
	}
}

// calls is every call that tells a device, with arguments of all sorts.
func calls(d api.Dev) []api.Dev {
	var l []api.Dev
	for _, at := range places(len(d.Blocks)) {
		for _, data := range []string{"", block("a"), block("a") + "a"} {
			w, _ := dev.Write(d, at, data)
			l = append(l, w)
		}
	}
	f, _ := dev.Flush(d)
	l = append(l, f)
	for _, n := range []int{math.MinInt, -1, 0, 1, math.MaxInt} {
		l = append(l, dev.Arm(d, n))
	}
	for _, keep := range [][]bool{nil, {true}, {false, true, true}, slices.Repeat([]bool{true}, cacheFull+2)} {
		l = append(l, dev.Crash(d, keep))
	}
	return l
}

// TestStayFit (P2.9).
func TestStayFit(t *testing.T) {
	for _, d := range fitDevices() {
		for _, x := range calls(d) {
			if !dev.Fit(x) {
				t.Errorf("%s becomes %s", show(d), show(x))
			}
		}
	}
}

// spare is a device whose lists have room behind them, as one that is built by append.
func spare(d api.Dev) api.Dev {
	d.Blocks = append(make([]string, 0, len(d.Blocks)+8), d.Blocks...)
	d.Cache = append(make([]api.Wr, 0, len(d.Cache)+8), d.Cache...)
	return d
}

// TestNothingShared (0.5): no call changes a device that it is given, nor what lies behind its lists; and what is told shares nothing with it.
func TestNothingShared(t *testing.T) {
	for _, d := range fitDevices() {
		s := spare(d)
		told := calls(s)
		for _, at := range places(len(s.Blocks)) {
			dev.Read(s, at)
		}
		dev.Same(s, s)
		dev.Fit(s)
		if !alike(s, d) || !slices.Equal(s.Cache[len(s.Cache):cap(s.Cache)], make([]api.Wr, cap(s.Cache)-len(s.Cache))) {
			t.Fatalf("%s has become %s", show(d), show(s))
		}
		for _, x := range told {
			clear(x.Blocks[:cap(x.Blocks)])
			clear(x.Cache[:cap(x.Cache)])
		}
		if !alike(s, d) {
			t.Fatalf("a change of what is told is seen in %s", show(d))
		}
	}
}

// TestKeepUnchanged (0.5).
func TestKeepUnchanged(t *testing.T) {
	keep := []bool{true, false, true, true}
	dev.Crash(filled(2, 3), keep)
	if !slices.Equal(keep, []bool{true, false, true, true}) {
		t.Errorf("keep has become %v", keep)
	}
}

// TestUnfit (0.1): of devices that are not fit it is promised only that every call ends, and none panics.
func TestUnfit(t *testing.T) {
	for _, c := range unfitDevices() {
		for _, d := range []api.Dev{c.d, left(c.d, 0), left(c.d, 1), dead(c.d)} {
			for _, x := range calls(d) {
				calls(x)
			}
			for _, at := range places(len(d.Blocks)) {
				dev.Read(d, at)
			}
		}
	}
}

// model is a device as the chapter's words have it: for each block what it was durably, and the cache's writes to all.
type model struct {
	home  map[int]string
	cache []api.Wr
	left  int
	dead  bool
}

// take does a write or flush, if the device takes it; the error that it tells.
func (m *model) take(do func()) api.Errno {
	if m.dead {
		return api.ErrDead
	}
	if m.left == 0 {
		m.dead = true
		return api.ErrIo
	}
	if m.left > 0 {
		m.left--
	}
	do()
	return api.OK
}

// done does those writes of the cache that are kept.
func (m *model) done(kept func(i int) bool) {
	for i, w := range m.cache {
		if kept(i) {
			m.home[w.At] = w.Data
		}
	}
	m.cache = nil
}

// device is the model as a device.
func (m *model) device() api.Dev {
	d := api.Dev{Cache: slices.Clone(m.cache), Left: m.left, Dead: m.dead}
	for at := range len(m.home) {
		d.Blocks = append(d.Blocks, m.home[at])
	}
	return d
}

// step does something drawn to the model and to the device; the device behind, and the errors of both.
func (m *model) step(draw *rand.Rand, d api.Dev) (api.Dev, api.Errno, api.Errno) {
	e, want := api.OK, api.OK
	switch n := draw.IntN(20); {
	case n < 12:
		at, data := draw.IntN(len(m.home)), block(fmt.Sprint("drawn ", draw.IntN(1000)))
		d, e = dev.Write(d, at, data)
		want = m.take(func() { m.cache = append(m.cache, api.Wr{At: at, Data: data}) })
	case n < 15:
		d, e = dev.Flush(d)
		want = m.take(func() { m.done(func(int) bool { return true }) })
	case n < 18:
		left := draw.IntN(12) - 1
		d = dev.Arm(d, left)
		if !m.dead {
			m.left = left
		}
	default:
		keep := make([]bool, draw.IntN(len(m.cache)+4))
		for i := range keep {
			keep[i] = draw.IntN(2) == 0
		}
		d = dev.Crash(d, keep)
		m.done(func(i int) bool { return i < len(keep) && keep[i] })
		m.left, m.dead = -1, false
	}
	return d, e, want
}

// TestWalk (P2.2 to P2.9): long rows of calls, drawn from fixed seeds, against the model; what is flushed, crashed and read on the way.
func TestWalk(t *testing.T) {
	for seed := range uint64(60) {
		draw := rand.New(rand.NewPCG(seed, 2))
		m := &model{home: map[int]string{}, left: -1}
		blocks := 1 + draw.IntN(5)
		for at := range blocks {
			m.home[at] = block("")
		}
		d := dev.New(blocks)
		for i := range 300 {
			var e, want api.Errno
			d, e, want = m.step(draw, d)
			if e != want || !dev.Same(d, m.device()) || !dev.Fit(d) {
				t.Fatalf("seed %d, step %d: error %d, want %d, and %s, want %s", seed, i, e, want, show(d), show(m.device()))
			}
			checkReads(t, m, d)
		}
	}
}

// checkReads holds what is read of each block against the model.
func checkReads(t *testing.T, m *model, d api.Dev) {
	t.Helper()
	for at := range len(m.home) {
		want, err := m.home[at], api.OK
		for _, w := range m.cache {
			if w.At == at {
				want = w.Data
			}
		}
		if m.dead {
			want, err = "", api.ErrDead
		}
		if got, e := dev.Read(d, at); got != want || e != err {
			t.Fatalf("Read(%d) = %q, %d, want %q, %d: %s", at, got, e, want, err, show(d))
		}
	}
}
