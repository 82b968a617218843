package wal_test

import (
	"encoding/binary"
	"fmt"
	"hash/crc32"
	"math"
	"math/rand/v2"
	"reflect"
	"slices"
	"strings"
	"testing"

	"almanac/api"
	"almanac/dev"
	"almanac/wal"
)

const (
	maxHome = 512
	maxLog  = 256
)

// block is a block that begins with a text.
func block(s string) string { return s + strings.Repeat("\x00", api.BlockSize-len(s)) }

// image is an image of so many blocks, each beginning with its place and a text.
func image(n int, s string) []string {
	var l []string
	for i := range n {
		l = append(l, block(fmt.Sprint(s, " ", i)))
	}
	return l
}

// with is an image with other blocks at some places.
func with(img []string, s string, places ...int) []string {
	l := slices.Clone(img)
	for _, at := range places {
		l[at] = block(fmt.Sprint(s, " ", at))
	}
	return l
}

// upTo is the numbers below n.
func upTo(n int) []int {
	var l []int
	for i := range n {
		l = append(l, i)
	}
	return l
}

// size is how a device is laid.
type size struct{ home, log int }

// lists is how many blocks the list has, counted up.
func (s size) lists() int {
	n := 0
	for bytes := 2 * s.home; bytes > 0; bytes -= api.BlockSize {
		n++
	}
	return n
}

func (s size) logAt() int  { return 1 + s.lists() }
func (s size) homeAt() int { return s.logAt() + s.log }
func (s size) blocks() int { return s.homeAt() + s.home }

// device is a device with an image, all else being clear.
func (s size) device(img []string) api.Dev {
	d := dev.New(s.blocks())
	copy(d.Blocks[s.homeAt():], img)
	return d
}

// big is a number in so many bytes, the highest first.
func big(n uint64, bytes int) string {
	return string(binary.BigEndian.AppendUint64(nil, n)[8-bytes:])
}

// list is the list's bytes, without what stands behind the places.
func list(places []int) string {
	s := ""
	for _, at := range places {
		s += big(uint64(at), 2)
	}
	return s
}

// sum is the check sum of places and blocks.
func sum(places []int, blocks []string) uint32 {
	return crc32.ChecksumIEEE([]byte(list(places) + strings.Join(blocks, "")))
}

// commitBlock is the commit block of places and blocks.
func commitBlock(seq uint64, places []int, blocks []string) string {
	return block("AWL1" + big(seq, 8) + big(uint64(len(places)), 2) + big(uint64(sum(places, blocks)), 4))
}

// logged is a device that has such a commit in its log: what stands in the list and in the log behind it is rubbish.
func (s size) logged(img []string, commit string, places []int, blocks []string) api.Dev {
	d := s.device(img)
	for at := 1; at < s.homeAt(); at++ {
		d.Blocks[at] = strings.Repeat("?", api.BlockSize)
	}
	l := list(places) + strings.Repeat("?", s.lists()*api.BlockSize)
	for i := range s.lists() {
		d.Blocks[1+i] = l[i*api.BlockSize:][:api.BlockSize]
	}
	copy(d.Blocks[s.logAt():], blocks)
	d.Blocks[0] = commit
	return d
}

// flush is the place of an op that is a flush.
const flush = -1

// op is a write or a flush.
type op struct {
	at   int
	data string
}

// tail is how both a commit and a recovery end.
func (s size) tail(places []int, blocks []string) []op {
	var l []op
	for i, at := range places {
		l = append(l, op{s.homeAt() + at, blocks[i]})
	}
	return append(l, op{at: flush}, op{0, block("")}, op{at: flush})
}

// ops is what a commit does to a device, and behind how many it is done.
func (s size) ops(seq uint64, now, img []string) ([]op, int) {
	var places []int
	var blocks []string
	for i := range img {
		if now[i] != img[i] {
			places, blocks = append(places, i), append(blocks, img[i])
		}
	}
	if len(places) == 0 {
		return nil, 0
	}
	var l []op
	bytes := list(places)
	for at := 1; bytes != ""; at++ {
		n := min(len(bytes), api.BlockSize)
		l = append(l, op{at, block(bytes[:n])})
		bytes = bytes[n:]
	}
	for i, b := range blocks {
		l = append(l, op{s.logAt() + i, b})
	}
	l = append(l, op{at: flush}, op{0, commitBlock(seq, places, blocks)}, op{at: flush})
	return append(l, s.tail(places, blocks)...), len(l)
}

// do does ops up to the first error; and how many it did.
func do(d api.Dev, ops []op) (api.Dev, api.Errno, int) {
	e := api.OK
	for i, o := range ops {
		if o.at == flush {
			d, e = dev.Flush(d)
		} else {
			d, e = dev.Write(d, o.at, o.data)
		}
		if e != api.OK {
			return d, e, i
		}
	}
	return d, api.OK, len(ops)
}

// own is a device that shares no memory with d, its lists being nil where they are empty.
func own(d api.Dev) api.Dev {
	d.Blocks = append([]string(nil), d.Blocks...)
	d.Cache = append([]api.Wr(nil), d.Cache...)
	return d
}

// alike tells whether two devices are the same.
func alike(a, b api.Dev) bool { return reflect.DeepEqual(own(a), own(b)) }

// roomy is a device whose lists have room behind them, in which a careless append would write.
func roomy(d api.Dev) api.Dev {
	d.Blocks = append(make([]string, 0, len(d.Blocks)+8), d.Blocks...)
	d.Cache = append(make([]api.Wr, 0, len(d.Cache)+2000), d.Cache...)
	return d
}

// show is a device in short: what is not zeros.
func show(d api.Dev) string {
	var b strings.Builder
	fmt.Fprintf(&b, "left %d dead %v, %d blocks", d.Left, d.Dead, len(d.Blocks))
	for i, s := range d.Blocks {
		if s := strings.TrimRight(s, "\x00"); s != "" && i < 40 {
			fmt.Fprintf(&b, " %d:%.24q", i, s)
		}
	}
	fmt.Fprintf(&b, ", cache of %d", len(d.Cache))
	for _, w := range d.Cache[:min(len(d.Cache), 12)] {
		fmt.Fprintf(&b, " %d:%.24q", w.At, strings.TrimRight(w.Data, "\x00"))
	}
	return b.String()
}

// bounds is counts at their bound, below, above, and far from it; and which of them may be.
func bounds(most int) map[int]bool {
	return map[int]bool{
		math.MinInt: false, -most: false, -1: false, 0: false,
		1: true, 2: true, most / 2: true, most - 1: true, most: true,
		most + 1: false, 2 * most: false, 1 << 16: false, 1<<32 + 1: false, math.MaxInt: false,
	}
}

// badSizes is sizes of which a part or both are out of their bounds.
func badSizes() []size {
	var l []size
	for home, homeOk := range bounds(maxHome) {
		for log, logOk := range bounds(maxLog) {
			if !homeOk || !logOk {
				l = append(l, size{home, log})
			}
		}
	}
	return l
}

// TestBlocks (P3.1).
func TestBlocks(t *testing.T) {
	for _, c := range []struct{ home, log, want int }{
		{1, 1, 4},
		{8, 4, 14},
		{63, 1, 66},
		{64, 1, 67},
		{65, 1, 69},
		{128, 2, 133},
		{129, 2, 135},
		{1, 256, 259},
		{448, 1, 457},
		{449, 1, 459},
		{512, 1, 522},
		{512, 256, 777},
	} {
		if got := wal.Blocks(c.home, c.log); got != c.want {
			t.Errorf("Blocks(%d, %d) is %d, not %d", c.home, c.log, got, c.want)
		}
	}
	for home := 1; home <= maxHome; home++ {
		for log := 1; log <= maxLog; log++ {
			if got, want := wal.Blocks(home, log), (size{home, log}).blocks(); got != want {
				t.Fatalf("Blocks(%d, %d) is %d, not %d", home, log, got, want)
			}
		}
	}
	for _, s := range badSizes() {
		if got := wal.Blocks(s.home, s.log); got != 0 {
			t.Errorf("Blocks(%d, %d) is %d", s.home, s.log, got)
		}
	}
}

// TestMake (P3.1).
func TestMake(t *testing.T) {
	for _, s := range []size{{1, 1}, {8, 4}, {64, 1}, {65, 256}, {512, 256}} {
		d, e := wal.Make(s.home, s.log)
		if e != api.OK || !alike(d, dev.New(s.blocks())) {
			t.Errorf("Make(%d, %d): %d, %s", s.home, s.log, e, show(d))
		}
	}
	for _, s := range badSizes() {
		d, e := wal.Make(s.home, s.log)
		if e != api.ErrNumber || !alike(d, api.Dev{}) {
			t.Errorf("Make(%d, %d): %d, %s", s.home, s.log, e, show(d))
		}
	}
}

// TestHome (P3.2): the home blocks, those in the cache too, and none of the others.
func TestHome(t *testing.T) {
	for _, s := range []size{{1, 1}, {3, 2}, {65, 1}, {512, 256}} {
		img := image(s.home, "home")
		d := s.logged(img, block("rubbish"), nil, nil)
		check := func(name string, d api.Dev, want []string) {
			was := own(d)
			got, e := wal.Home(roomy(d), s.home, s.log)
			if e != api.OK || !slices.Equal(got, want) {
				t.Errorf("Home of %v, %s: %d, %q", s, name, e, got)
			}
			if !alike(d, was) {
				t.Errorf("Home of %v, %s, changes the device", s, name)
			}
		}
		check("durable", d, img)
		check("that takes nothing", dev.Arm(d, 0), img)
		for _, w := range []op{{s.homeAt(), block("a")}, {s.blocks() - 1, block("b")}, {s.homeAt() - 1, block("c")}, {s.blocks() - 1, block("d")}} {
			d, _ = dev.Write(d, w.at, w.data)
		}
		want := slices.Clone(img)
		want[0] = block("a")
		want[s.home-1] = block("d")
		check("with a cache", d, want)
	}
}

// otherSizes is devices whose count of blocks is another one than that of a size.
func otherSizes(s size) []api.Dev {
	l := []api.Dev{dev.New(s.blocks() + 1), dev.New(1), dev.New(api.MaxBlocks)}
	if s.blocks() > 1 {
		l = append(l, dev.New(s.blocks()-1))
	}
	return l
}

// dead is a device that has refused a write.
func dead(d api.Dev) api.Dev {
	d.Left, d.Dead = 0, true
	return d
}

// TestHomeErrors (P3.2): each error, and which of them is first.
func TestHomeErrors(t *testing.T) {
	s := size{8, 4}
	check := func(d api.Dev, s size, want api.Errno) {
		if got, e := wal.Home(d, s.home, s.log); e != want || len(got) != 0 {
			t.Errorf("Home(%s, %d, %d): %d, not %d, %q", show(d), s.home, s.log, e, want, got)
		}
	}
	for _, bad := range badSizes() {
		check(s.device(nil), bad, api.ErrNumber)
		check(dead(dev.New(1)), bad, api.ErrNumber)
	}
	for _, d := range otherSizes(s) {
		check(d, s, api.ErrState)
		check(dead(d), s, api.ErrState)
	}
	check(dead(s.device(nil)), s, api.ErrDead)
}

// TestChanged (P3.3): all pairs of short images over three blocks, one of them not fit.
func TestChanged(t *testing.T) {
	images := [][]string{nil, {}}
	for begin := 1; begin < len(images); begin++ {
		if len(images[begin]) < 4 {
			for _, s := range []string{block("a"), block("b"), ""} {
				images = append(images, append(slices.Clone(images[begin]), s))
			}
		}
	}
	for _, a := range images {
		for _, b := range images {
			var want []int
			for i := range 4 {
				if i < len(a) != (i < len(b)) || i < len(a) && a[i] != b[i] {
					want = append(want, i)
				}
			}
			if got := wal.Changed(a, b); !slices.Equal(got, want) {
				t.Fatalf("Changed(%q, %q) is %d, not %d", a, b, got, want)
			}
		}
	}
}

// TestChangedMany (P3.3): more than an image has.
func TestChangedMany(t *testing.T) {
	long := image(2000, "x")
	for _, c := range []struct {
		a, b []string
		want []int
	}{
		{long, long, nil},
		{long, nil, upTo(2000)},
		{nil, long, upTo(2000)},
		{long, with(long, "y", 0, 700, 1999), []int{0, 700, 1999}},
		{long[:1998], long, []int{1998, 1999}},
		{with(long, "y", 3)[:1999], long, []int{3, 1999}},
	} {
		if got := wal.Changed(c.a, c.b); !slices.Equal(got, c.want) {
			t.Errorf("Changed of %d and %d blocks is %d", len(c.a), len(c.b), got)
		}
	}
}

// commits is a commit that is tried: of an image, on a device.
type commits struct {
	name string
	s    size
	d    api.Dev
	seq  uint64
	img  []string
}

// goodCommits is commits that a device that refuses nothing takes.
func goodCommits() []commits {
	var l []commits
	add := func(name string, s size, d api.Dev, seq uint64, img []string) {
		l = append(l, commits{name, s, d, seq, img})
	}
	small := size{8, 4}
	img := image(8, "was")
	d := small.device(img)
	add("no block", small, d, 7, img)
	add("one block", small, d, 7, with(img, "new", 3))
	add("the first and the last", small, d, 0, with(img, "new", 0, 7))
	add("as many as the log has", small, d, math.MaxUint64, with(img, "new", 0, 2, 5, 6))
	rubbish := small.logged(img, block(""), []int{7, 8, 9}, image(2, "rubbish"))
	add("over an old log", small, rubbish, 0x0102030405060708, with(img, "new", 1, 4))
	late := d
	for _, w := range []op{{small.homeAt() + 2, block("new 2")}, {small.homeAt() + 4, block("cached")}, {0, block("x")}, {0, block("")}} {
		late, _ = dev.Write(late, w.at, w.data)
	}
	add("with a cache", small, late, 9, with(img, "new", 1, 2))
	add("what is in the cache alone", small, late, 9, with(with(img, "new", 2), "cached\x00\x00", 4))
	add("one block of one", size{1, 1}, size{1, 1}.device(nil), 1, image(1, "new"))
	add("a log beyond home", size{2, 256}, size{2, 256}.device(nil), 1, image(2, "new"))
	wide := size{130, 129}
	img = image(130, "was")
	for _, n := range []int{63, 64, 65, 127, 128, 129} {
		add(fmt.Sprint(n, " blocks"), wide, wide.device(img), 1<<63, with(img, "new", upTo(n)...))
	}
	most := size{maxHome, maxLog}
	img = image(maxHome, "was")
	add("the most", most, most.logged(img, block(""), nil, nil), 3, with(img, "new", upTo(maxHome)[maxHome-maxLog:]...))
	return l
}

// nowOf is home, as the device has it.
func nowOf(c commits) []string {
	var now []string
	for i := range c.s.home {
		b, _ := dev.Read(c.d, c.s.homeAt()+i)
		now = append(now, b)
	}
	return now
}

// TestCommit (P3.4): a device that refuses each step in turn, from the first to past the last.
func TestCommit(t *testing.T) {
	t.Parallel()
	for _, c := range goodCommits() {
		ops, done := c.s.ops(c.seq, nowOf(c), c.img)
		for _, n := range append(upTo(len(ops)+2), -1, -2, math.MaxInt) {
			d := dev.Arm(c.d, n)
			want, wantE, did := do(d, ops)
			was, img := own(d), slices.Clone(c.img)
			given := roomy(d)
			got, e, ok := wal.Commit(given, c.s.home, c.s.log, c.seq, img)
			if e != wantE || ok != (did >= done) || !alike(got, want) {
				t.Fatalf("Commit of %s, %d left: %d %v, %s, not %d %v, %s", c.name, n, e, ok, show(got), wantE, did >= done, show(want))
			}
			if !alike(given, was) || !slices.Equal(img, c.img) {
				t.Fatalf("Commit of %s, %d left, changes what it is given", c.name, n)
			}
			if n == -1 && !slices.Equal(got.Blocks[c.s.homeAt():], c.img) && len(ops) > 0 {
				t.Fatalf("Commit of %s leaves home another image", c.name)
			}
		}
	}
}

// TestCommitBytes (P3.4): the example of the chapter, byte by byte.
func TestCommitBytes(t *testing.T) {
	d, _ := wal.Make(8, 4)
	img, _ := wal.Home(d, 8, 4)
	img[3] = block("\x04")
	got, e, ok := wal.Commit(dev.Arm(d, 3), 8, 4, 0x1122334455667788, img)
	if e != api.ErrIo || ok || !got.Dead {
		t.Fatalf("Commit of a device that takes 3: %d %v", e, ok)
	}
	if got.Blocks[0] != block("") || got.Blocks[1] != block("\x00\x03") || got.Blocks[2] != block("\x04") || len(got.Cache) != 0 {
		t.Errorf("behind a flush: %s", show(got))
	}
	got, e, ok = wal.Commit(dev.Arm(d, 4), 8, 4, 0x1122334455667788, img)
	crc := crc32.ChecksumIEEE([]byte("\x00\x03" + block("\x04")))
	want := "AWL1\x11\x22\x33\x44\x55\x66\x77\x88\x00\x01" + string([]byte{byte(crc >> 24), byte(crc >> 16), byte(crc >> 8), byte(crc)})
	if e != api.ErrIo || ok || !slices.Equal(got.Cache, []api.Wr{{At: 0, Data: block(want)}}) {
		t.Errorf("the commit block: %d %v %s", e, ok, show(got))
	}
	for n, wantOk := range []bool{false, false, false, false, false, true, true, true, true} {
		got, e, ok = wal.Commit(dev.Arm(d, n), 8, 4, 7, img)
		if e != api.ErrIo || ok != wantOk || !got.Dead {
			t.Errorf("Commit of a device that takes %d: %d %v", n, e, ok)
		}
	}
	got, e, ok = wal.Commit(dev.Arm(d, 9), 8, 4, 7, img)
	if e != api.OK || !ok || got.Left != 0 || got.Blocks[0] != block("") || got.Blocks[9] != block("\x04") {
		t.Errorf("Commit of a device that takes 9: %d %v %s", e, ok, show(got))
	}
}

// fault is something that is wrong with a commit, and the error that it is.
type fault struct {
	e     api.Errno
	spoil func(*commits)
}

// commitFaults is what may be wrong, in the order in which the chapter names it.
func commitFaults() []fault {
	return []fault{
		{api.ErrNumber, func(c *commits) { c.s.log = 0 }},
		{api.ErrState, func(c *commits) { c.d.Blocks = append(c.d.Blocks, block("")) }},
		{api.ErrState, func(c *commits) { c.img = append(c.img, block("")) }},
		{api.ErrDead, func(c *commits) { c.d = dead(c.d) }},
		{api.ErrState, func(c *commits) { c.d.Blocks[0] = "\x00\x01" + block("")[2:] }},
		{api.ErrFull, func(c *commits) { c.img = slices.Concat(image(5, "new"), c.img[5:]) }},
		{api.ErrIo, func(c *commits) { c.d.Left = 0 }},
	}
}

// TestCommitErrors (P3.4): all errors at once in all ways: the first one is told, with the device as it was.
func TestCommitErrors(t *testing.T) {
	faults := commitFaults()
	img := image(8, "was")
	for set := range 1 << len(faults) {
		c := commits{s: size{8, 4}, d: size{8, 4}.device(img), img: with(img, "new", 2)}
		want := api.OK
		for i, f := range slices.Backward(faults) {
			if set>>i&1 == 1 {
				f.spoil(&c)
				want = f.e
			}
		}
		was := own(c.d)
		got, e, ok := wal.Commit(c.d, c.s.home, c.s.log, 5, c.img)
		if e != want || ok != (e == api.OK) {
			t.Errorf("Commit with the faults %b: %d %v, not %d", set, e, ok, want)
		}
		if want == api.ErrIo {
			was.Dead = true
		}
		if want != api.OK && !alike(got, was) {
			t.Errorf("Commit with the faults %b, error %d: %s, not %s", set, e, show(got), show(was))
		}
	}
}

// refused checks that a commit is refused, with the device as it was.
func refused(t *testing.T, name string, d api.Dev, s size, img []string, want api.Errno) {
	t.Helper()
	got, e, ok := wal.Commit(d, s.home, s.log, 5, img)
	if e != want || ok || !alike(got, d) {
		t.Errorf("Commit, %s: %d %v, %s, not %d, %s", name, e, ok, show(got), want, show(d))
	}
}

// TestCommitRefused (P3.4): every kind of each error that leaves the device as it was.
func TestCommitRefused(t *testing.T) {
	s := size{8, 4}
	img := image(8, "was")
	d := s.device(img)
	for _, bad := range badSizes() {
		refused(t, fmt.Sprint(bad), d, bad, img, api.ErrNumber)
	}
	for _, d := range otherSizes(s) {
		refused(t, fmt.Sprint(len(d.Blocks), " blocks"), d, s, img, api.ErrState)
	}
	refused(t, "no device", api.Dev{}, s, img, api.ErrState)
	images := map[string][]string{"nil": nil, "empty": {}, "one less": img[:7], "one more": append(slices.Clone(img), block(""))}
	for at := range img {
		for _, data := range []string{"", block("")[1:], block("") + "\x00"} {
			bad := slices.Clone(img)
			bad[at] = data
			images[fmt.Sprint(len(data), " bytes at ", at)] = bad
		}
	}
	for name, bad := range images {
		refused(t, name, d, s, bad, api.ErrState)
		refused(t, name+", dead", dead(d), s, bad, api.ErrState)
	}
	refused(t, "dead", dead(d), s, img, api.ErrDead)
	refused(t, "dead", dead(d), s, with(img, "new", 1), api.ErrDead)
	for at := range api.BlockSize {
		bad := s.device(img)
		bad.Blocks[0] = block("")[:at] + "\x80" + block("")[at+1:]
		refused(t, fmt.Sprint("a bit at ", at), bad, s, img, api.ErrState)
	}
	begun := s.logged(img, commitBlock(1, []int{1}, image(1, "x")), []int{1}, image(1, "x"))
	refused(t, "a commit that is done", begun, s, img, api.ErrState)
	cached, _ := dev.Write(d, 0, commitBlock(1, []int{1}, image(1, "x")))
	refused(t, "a commit in the cache", cached, s, img, api.ErrState)
	refused(t, "five blocks", d, s, with(img, "new", 0, 1, 2, 3, 4), api.ErrFull)
	refused(t, "all blocks", d, s, image(8, "new"), api.ErrFull)
	refused(t, "five blocks, armed", dev.Arm(d, 0), s, with(img, "new", 0, 1, 2, 3, 7), api.ErrFull)
	most := size{maxHome, maxLog}
	refused(t, "one too many", most.device(nil), most, slices.Concat(image(257, "x"), most.device(nil).Blocks[:255]), api.ErrFull)
}

// TestCommitCleared (P3.4): a commit block that is clear in the cache alone is clear.
func TestCommitCleared(t *testing.T) {
	s := size{8, 4}
	img := image(8, "was")
	d, _ := dev.Write(s.logged(img, block("AWL1"), nil, nil), 0, block(""))
	got, e, ok := wal.Commit(d, 8, 4, 1, with(img, "new", 1))
	if e != api.OK || !ok || got.Blocks[0] != block("") || got.Blocks[s.homeAt()+1] != block("new 1") {
		t.Errorf("Commit: %d %v %s", e, ok, show(got))
	}
}

// TestCommitCacheFull (P3.4): a cache without room for the log; the device is not dead of it.
func TestCommitCacheFull(t *testing.T) {
	s := size{8, 4}
	img := image(8, "was")
	for room := range 7 {
		d := s.device(img)
		for range 4096 - room {
			d.Cache = append(d.Cache, api.Wr{At: s.homeAt() + 7, Data: img[7]})
		}
		after := with(img, "new", 1, 2, 3, 4)
		ops, done := s.ops(8, img, after)
		for _, n := range []int{-1, room, room + 2, room + 9} {
			d := dev.Arm(d, n)
			want, wantE, did := do(d, ops)
			got, e, ok := wal.Commit(d, 8, 4, 8, after)
			if e != wantE || ok != (did >= done) || !alike(got, want) {
				t.Errorf("Commit with room for %d, %d left: %d %v %s, not %d %s", room, n, e, ok, show(got), wantE, show(want))
			}
			if n == -1 && (e == api.ErrFull) != (room < 5) {
				t.Errorf("Commit with room for %d: %d", room, e)
			}
		}
	}
}

// TestRecover (P3.5): a device that refuses each step in turn, from the first to past the last.
func TestRecover(t *testing.T) {
	t.Parallel()
	type recovery struct {
		name   string
		s      size
		seq    uint64
		places []int
	}
	for _, c := range []recovery{
		{"clear", size{8, 4}, 0, nil},
		{"one place", size{8, 4}, 0, []int{7}},
		{"as many as the log has", size{8, 4}, math.MaxUint64, []int{0, 2, 3, 7}},
		{"as many as home has", size{4, 8}, 1, []int{0, 1, 2, 3}},
		{"falling", size{8, 4}, 1, []int{5, 3, 1}},
		{"twice", size{8, 4}, 1, []int{5, 3, 5}},
		{"one of one", size{1, 1}, 1, []int{0}},
		{"64 places", size{130, 129}, 1, upTo(64)},
		{"65 places", size{130, 129}, 1, upTo(130)[65:]},
		{"129 places", size{130, 129}, 1, upTo(130)[1:]},
		{"the most", size{maxHome, maxLog}, 1, upTo(maxHome)[maxHome-maxLog:]},
	} {
		img, blocks := image(c.s.home, "was"), image(len(c.places), "new")
		commit, ops := block(""), []op(nil)
		if len(c.places) > 0 {
			commit, ops = commitBlock(c.seq, c.places, blocks), c.s.tail(c.places, blocks)
		}
		durable := c.s.logged(img, commit, c.places, blocks)
		cached := c.s.device(img)
		for at, b := range durable.Blocks[:c.s.homeAt()] {
			cached, _ = dev.Write(cached, at, b)
		}
		for _, d := range []api.Dev{durable, cached} {
			for _, n := range append(upTo(len(ops)+2), -1, math.MaxInt) {
				given := roomy(dev.Arm(d, n))
				was := own(given)
				want, wantE, _ := do(given, ops)
				got, e := wal.Recover(given, c.s.home, c.s.log)
				if e != wantE || !alike(got, want) {
					t.Fatalf("Recover of %s, %d left: %d %s, not %d %s", c.name, n, e, show(got), wantE, show(want))
				}
				if !alike(given, was) {
					t.Fatalf("Recover of %s, %d left, changes the device", c.name, n)
				}
			}
		}
	}
}

// unrecovered checks that a recovery is refused, with the device as it was.
func unrecovered(t *testing.T, name string, d api.Dev, s size, want api.Errno) {
	t.Helper()
	was := own(d)
	got, e := wal.Recover(d, s.home, s.log)
	if e != want || !alike(got, was) || !alike(d, was) {
		t.Errorf("Recover, %s: %d, %s, not %d, %s", name, e, show(got), want, show(was))
	}
}

// TestRecoverErrors (P3.5): those ahead of the commit block's, also where several hold at once.
func TestRecoverErrors(t *testing.T) {
	s := size{8, 4}
	wrong := s.logged(image(8, "was"), block("AWL1"), nil, nil)
	for _, bad := range badSizes() {
		unrecovered(t, fmt.Sprint(bad), s.device(nil), bad, api.ErrNumber)
		unrecovered(t, fmt.Sprint(bad, ", dead"), dead(dev.New(3)), bad, api.ErrNumber)
	}
	for _, d := range otherSizes(s) {
		unrecovered(t, fmt.Sprint(len(d.Blocks), " blocks"), d, s, api.ErrState)
		unrecovered(t, fmt.Sprint(len(d.Blocks), " blocks, dead"), dead(d), s, api.ErrState)
		d.Blocks[0] = block("AWL1")
		unrecovered(t, fmt.Sprint(len(d.Blocks), " blocks, wrong"), dead(d), s, api.ErrState)
	}
	unrecovered(t, "dead", dead(s.device(nil)), s, api.ErrDead)
	unrecovered(t, "dead and wrong", dead(wrong), s, api.ErrDead)
	unrecovered(t, "wrong", wrong, s, api.ErrForm)
	unrecovered(t, "wrong and armed", dev.Arm(wrong, 0), s, api.ErrForm)
	cached, _ := dev.Write(s.device(nil), 0, block("AWL1"))
	unrecovered(t, "wrong in the cache", cached, s, api.ErrForm)
}

// TestRecoverForm (P3.5): a commit block that is wrong in each byte, or in what it says.
func TestRecoverForm(t *testing.T) {
	s := size{8, 4}
	img := image(8, "was")
	places, blocks := []int{1, 4, 7}, image(3, "new")
	good := commitBlock(3, places, blocks)
	if _, e := wal.Recover(s.logged(img, good, places, blocks), 8, 4); e != api.OK {
		t.Fatalf("Recover of what is well formed: %d", e)
	}
	for at := range api.BlockSize {
		if at >= 4 && at < 12 { // seq may be any, and is not summed up
			continue
		}
		for bit := range 8 {
			bad := []byte(good)
			bad[at] ^= 1 << bit
			unrecovered(t, fmt.Sprintf("bit %d of byte %d", bit, at), s.logged(img, string(bad), places, blocks), s, api.ErrForm)
		}
	}
	unrecovered(t, "small letters", s.logged(img, "awl1"+good[4:], places, blocks), s, api.ErrForm)
	unrecovered(t, "nothing but the letters", s.logged(img, block("AWL1"), places, blocks), s, api.ErrForm)
	for at := range s.homeAt() - 1 {
		d := s.logged(img, good, places, blocks)
		for b := range api.BlockSize {
			summed := at == 0 && b < 2*len(places) || at > 0 && at <= len(blocks)
			bad := []byte(d.Blocks[1+at])
			bad[b] ^= 0x10
			d := own(d)
			d.Blocks[1+at] = string(bad)
			if summed {
				unrecovered(t, fmt.Sprintf("byte %d of block %d", b, 1+at), d, s, api.ErrForm)
			} else if _, e := wal.Recover(d, 8, 4); e != api.OK {
				t.Errorf("Recover with another byte %d of block %d: %d", b, 1+at, e)
			}
		}
	}
}

// TestRecoverCounts (P3.5): counts and places at their bounds, with the sum that they ask for.
func TestRecoverCounts(t *testing.T) {
	check := func(name string, s size, commit string, places []int, blocks []string, want api.Errno) {
		t.Helper()
		d := s.logged(image(s.home, "was"), commit, places, blocks)
		if want == api.OK {
			if _, e := wal.Recover(d, s.home, s.log); e != api.OK {
				t.Errorf("Recover, %s: %d", name, e)
			}
			return
		}
		unrecovered(t, name, d, s, want)
	}
	sealed := func(name string, s size, places []int, want api.Errno) {
		t.Helper()
		blocks := image(min(len(places), s.log), "new")
		check(name, s, commitBlock(1, places, blocks), places, blocks, want)
	}
	sealed("none", size{8, 4}, nil, api.ErrForm)
	sealed("log's", size{8, 4}, upTo(4), api.OK)
	sealed("more than log's", size{8, 4}, upTo(5), api.ErrForm)
	sealed("home's", size{4, 8}, upTo(4), api.OK)
	sealed("more than home's", size{4, 8}, []int{0, 1, 2, 3, 3}, api.ErrForm)
	sealed("more than the list's", size{64, 128}, append(upTo(64), 0), api.ErrForm)
	sealed("more than home's, not than the list's", size{65, 128}, append(upTo(65), 0), api.ErrForm)
	for _, at := range []int{0, 7} {
		sealed("a place", size{8, 4}, []int{at, 2}, api.OK)
	}
	for _, at := range []int{8, 9, 255, 256, 0x7fff, 0x8000, 0xffff} {
		sealed(fmt.Sprint("place ", at), size{8, 4}, []int{2, at}, api.ErrForm)
		sealed(fmt.Sprint("place ", at, " first"), size{8, 4}, []int{at, 2}, api.ErrForm)
	}
	sealed("the last place", size{512, 3}, []int{511, 0}, api.OK)
	sealed("a place behind the last one", size{512, 3}, []int{512, 0}, api.ErrForm)
	for _, n := range []uint64{0, 5, 255, 256, 0x0100, 0x0300, 0xffff} {
		places, blocks := upTo(3), image(4, "new")
		commit := commitBlock(1, places, blocks[:3])
		check(fmt.Sprint("count ", n), size{8, 4}, commit[:12]+big(n, 2)+commit[14:], places, blocks, api.ErrForm)
	}
}

// TestCommitRecovered (P3.4, P3.5): what a commit leaves on the device is what a recovery reads, whatever the numbers.
func TestCommitRecovered(t *testing.T) {
	t.Parallel()
	for _, c := range goodCommits() {
		ops, done := c.s.ops(c.seq, nowOf(c), c.img)
		for n := done; n < len(ops); n++ {
			d, e, ok := wal.Commit(dev.Arm(c.d, n), c.s.home, c.s.log, c.seq, c.img)
			if e != api.ErrIo || !ok {
				t.Fatalf("Commit of %s, %d left: %d %v", c.name, n, e, ok)
			}
			d, e = wal.Recover(dev.Crash(d, nil), c.s.home, c.s.log)
			if img, _ := wal.Home(d, c.s.home, c.s.log); e != api.OK || !slices.Equal(img, c.img) {
				t.Fatalf("Recover behind a commit of %s, %d left: %d", c.name, n, e)
			}
		}
	}
}

// kept is which writes of a cache stay, by the bits of a number.
func kept(set, cache int) []bool {
	var l []bool
	for i := range cache {
		l = append(l, set>>i&1 == 1)
	}
	return l
}

// crashes is a device behind every crash that can be, each state once.
func crashes(d api.Dev) []api.Dev {
	seen := map[string]bool{}
	var l []api.Dev
	for set := range 1 << len(d.Cache) {
		c := dev.Crash(d, kept(set, len(d.Cache)))
		if key := strings.Join(c.Blocks, ""); !seen[key] {
			seen[key] = true
			l = append(l, c)
		}
	}
	return l
}

// ends is all images that home may be when a recovery is through, however often it is broken off ahead of that.
func ends(t *testing.T, s size, d api.Dev) [][]string {
	var found [][]string
	seen := map[string]bool{}
	todo := []api.Dev{d}
	for len(todo) > 0 {
		d := todo[0]
		todo = todo[1:]
		if key := strings.Join(d.Blocks, ""); seen[key] {
			continue
		} else {
			seen[key] = true
		}
		through := false
		for n := 0; !through; n++ {
			r, e := wal.Recover(dev.Arm(d, n), s.home, s.log)
			switch e {
			case api.OK:
				through = true
				img, _ := wal.Home(r, s.home, s.log)
				found = append(found, img)
				again, e := wal.Recover(dev.Arm(r, 0), s.home, s.log)
				if e != api.OK || !alike(again, dev.Arm(r, 0)) {
					t.Fatalf("Recover behind Recover: %d %s", e, show(again))
				}
			case api.ErrIo:
				todo = append(todo, crashes(r)...)
			default:
				t.Fatalf("Recover of %s: %d", show(d), e)
			}
		}
	}
	return found
}

// TestAllOrNothing (P3.6, P3.7): a commit that is broken off at each step, all crashes of it, and all recoveries that are broken off at each step, with all their crashes, again and again.
func TestAllOrNothing(t *testing.T) {
	s := size{4, 3}
	was := image(4, "was")
	for _, places := range [][]int{{}, {2}, {0, 3}, {0, 1, 2}, {1, 2, 3}} {
		img := with(was, "new", places...)
		for _, d := range []api.Dev{s.device(was), s.logged(was, block(""), []int{1, 0}, image(3, "old"))} {
			ops, _ := s.ops(9, was, img)
			for n := range len(ops) + 1 {
				c, e, ok := wal.Commit(dev.Arm(d, n), s.home, s.log, 9, img)
				if e != api.OK && e != api.ErrIo {
					t.Fatalf("Commit: %d", e)
				}
				for _, c := range crashes(c) {
					for _, end := range ends(t, s, c) {
						if !slices.Equal(end, img) && (ok || !slices.Equal(end, was)) {
							t.Fatalf("a commit at %d, done %v, broken off at %d, ends as %q", places, ok, n, end)
						}
					}
				}
			}
		}
	}
}

// luck is a crash that keeps some of a cache's writes, none, or all.
func luck(r *rand.Rand, d api.Dev) api.Dev {
	return dev.Crash(d, kept([]int{0, -1, int(r.Uint32())}[r.IntN(3)], r.IntN(len(d.Cache)+2)))
}

// TestManyCommits (P3.6, P3.7): rows of commits and recoveries, broken off anywhere, of images that differ in few blocks and in many.
func TestManyCommits(t *testing.T) {
	for seed := range uint64(60) {
		r := rand.New(rand.NewPCG(seed, 3))
		s := size{1 + r.IntN(12), 1 + r.IntN(8)}
		if seed%10 == 0 {
			s = size{100 + r.IntN(60), 70 + r.IntN(10)}
		}
		d, _ := wal.Make(s.home, s.log)
		is, _ := wal.Home(d, s.home, s.log)
		for step := range 60 {
			img := slices.Clone(is)
			for range r.IntN(s.log + 2) {
				img[r.IntN(s.home)] = block(fmt.Sprint("step ", step, " ", r.IntN(3)))
			}
			n := r.IntN(3*s.log + 12)
			c, e, ok := wal.Commit(dev.Arm(d, n-1), s.home, s.log, r.Uint64(), img)
			switch {
			case e == api.ErrFull:
				if ok || len(wal.Changed(is, img)) <= s.log || !alike(c, dev.Arm(d, n-1)) {
					t.Fatalf("seed %d, step %d: Commit is full with %d blocks", seed, step, len(wal.Changed(is, img)))
				}
				img = is
			case e == api.OK && ok:
				is = img
			case e != api.ErrIo:
				t.Fatalf("seed %d, step %d: Commit: %d %v", seed, step, e, ok)
			}
			if e != api.OK || r.IntN(4) == 0 {
				c = luck(r, c)
				for {
					c, e = wal.Recover(dev.Arm(c, r.IntN(s.log+6)), s.home, s.log)
					if e == api.OK {
						break
					}
					c = luck(r, c)
				}
			}
			home, _ := wal.Home(c, s.home, s.log)
			if !slices.Equal(home, img) && (ok || !slices.Equal(home, is)) {
				t.Fatalf("seed %d, step %d: home differs at %d from what was, at %d from what is to be, done %v", seed, step, wal.Changed(home, is), wal.Changed(home, img), ok)
			}
			again, e := wal.Recover(dev.Arm(c, 0), s.home, s.log)
			if e != api.OK || !alike(again, dev.Arm(c, 0)) {
				t.Fatalf("seed %d, step %d: Recover behind Recover: %d", seed, step, e)
			}
			is, d = home, c
		}
	}
}

// TestApart: what is told shares no memory with what was handed in, errors or not.
func TestApart(t *testing.T) {
	s := size{8, 4}
	img := image(8, "was")
	full := s.logged(img, commitBlock(1, []int{2}, image(1, "x")), []int{2}, image(1, "x"))
	cached, _ := dev.Write(s.device(img), 5, block("x"))
	for _, d := range []api.Dev{s.device(img), dev.Arm(s.device(img), 0), dead(s.device(img)), full, s.logged(img, block("AWL1"), nil, nil), cached, dead(cached)} {
		d = roomy(d)
		for _, img := range [][]string{nil, img, with(img, "new", 1), image(8, "new")} {
			for _, log := range []int{0, 3, 4} {
				was := own(d)
				c, _, _ := wal.Commit(d, 8, log, 1, img)
				r, _ := wal.Recover(d, 8, log)
				h, _ := wal.Home(d, 8, log)
				for _, x := range []api.Dev{c, r} {
					for i := range x.Blocks {
						x.Blocks[i] = block("changed")
					}
					for i := range x.Cache {
						x.Cache[i] = api.Wr{At: 1, Data: block("changed")}
					}
					_ = append(x.Blocks, "changed")
					_ = append(x.Cache, api.Wr{At: 1})
				}
				for i := range h {
					h[i] = "changed"
				}
				if !alike(d, was) || !alike(api.Dev{Blocks: d.Blocks[:len(d.Blocks)+8]}, api.Dev{Blocks: append(own(was).Blocks, make([]string, 8)...)}) {
					t.Fatalf("a change of what was told changes %s", show(d))
				}
			}
		}
	}
}

// unfit is a device of so many blocks that need not be fit.
func unfit(r *rand.Rand, n int) api.Dev {
	commit := commitBlock(1, []int{1, 0}, image(2, "x"))
	data := func() string {
		return []string{"", "a", block(""), commit, commit[:13], commit[:20], commit + "a", list([]int{1, 0}), block("AWL1\x00\x00\x00\x00\x00\x00\x00\x00\x00\x02")}[r.IntN(9)]
	}
	d := api.Dev{Left: r.IntN(6) - 3, Dead: r.IntN(5) == 0}
	for range n {
		d.Blocks = append(d.Blocks, data())
	}
	for range r.IntN(4) {
		d.Cache = append(d.Cache, api.Wr{At: r.IntN(n+4) - 2, Data: data()})
	}
	return d
}

// TestUnfit (0.1): no device and no image is too odd.
func TestUnfit(t *testing.T) {
	r := rand.New(rand.NewPCG(3, 3))
	for range 20000 {
		s := size{1 + r.IntN(3), 1 + r.IntN(3)}
		d := unfit(r, s.blocks()+r.IntN(2)*(r.IntN(3)-1))
		wal.Home(d, s.home, s.log)
		wal.Recover(d, s.home, s.log)
		wal.Commit(d, s.home, s.log, r.Uint64(), image(s.home, "x"))
		wal.Commit(d, s.home, s.log, r.Uint64(), d.Blocks)
	}
	for _, s := range append(badSizes(), size{1, 1}, size{512, 256}) {
		for _, d := range []api.Dev{{}, {Left: -5, Dead: true}, {Blocks: make([]string, 777)}, {Blocks: make([]string, 4)}} {
			wal.Home(d, s.home, s.log)
			wal.Recover(d, s.home, s.log)
			wal.Commit(d, s.home, s.log, 0, make([]string, 1))
			wal.Commit(d, s.home, s.log, 0, image(max(0, min(s.home, 512)), ""))
		}
	}
}
