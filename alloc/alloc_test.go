package alloc_test

import (
	"fmt"
	"math"
	"math/big"
	"math/rand/v2"
	"slices"
	"strings"
	"testing"

	"almanac/alloc"
	"almanac/api"
)

const (
	minBlocks = 8
	maxBlocks = 512
)

// far is numbers that lie far from all bounds.
var far = []int{math.MinInt, math.MinInt32, -1 << 20, 1 << 20, math.MaxInt32, math.MaxInt}

// zeros is a block of zeros.
var zeros = strings.Repeat("\x00", api.BlockSize)

// inodes is how many inodes n blocks have, counted up.
func inodes(n int) int {
	c := 0
	for 4*(c+4) <= n {
		c += 4
	}
	if c == 0 {
		return 4
	}
	return c
}

// first is the first data block of n blocks, counted up.
func first(n int) int {
	at := 2
	for c := inodes(n); c > 0; c -= 4 {
		at++
	}
	return at
}

// model is an image as it is meant.
type model struct {
	n     int
	taken []bool   // a block
	data  []string // a block, from the first inodes' on
}

func newModel(n int, taken ...int) model {
	m := model{n: n, taken: make([]bool, n), data: make([]string, n)}
	for at := range n {
		m.taken[at] = at < first(n) || slices.Contains(taken, at)
		m.data[at] = zeros
	}
	return m
}

// filled is the same with something in each of the blocks behind the map, taken or not.
func (m model) filled(s string) model {
	m.data = slices.Clone(m.data)
	for at := 2; at < m.n; at++ {
		m.data[at] = (fmt.Sprint(s, " ", at, " ") + strings.Repeat("~", api.BlockSize))[:api.BlockSize]
	}
	return m
}

// image is the image's bytes: the map is a number, its lowest byte first.
func (m model) image() []string {
	bits := new(big.Int)
	for at, is := range m.taken {
		if is {
			bits.SetBit(bits, at, 1)
		}
	}
	b := make([]byte, api.BlockSize)
	bits.FillBytes(b)
	slices.Reverse(b)
	head := "AFS1" + string([]byte{byte(m.n / 256), byte(m.n % 256), byte(inodes(m.n) / 256), byte(inodes(m.n) % 256)})
	return slices.Concat([]string{head + zeros[len(head):], string(b)}, m.data[2:])
}

// free is the data blocks that are not taken.
func (m model) free() []int {
	var l []int
	for at := first(m.n); at < m.n; at++ {
		if !m.taken[at] {
			l = append(l, at)
		}
	}
	return l
}

// used is the data blocks that are taken.
func (m model) used() []int {
	var l []int
	for at := first(m.n); at < m.n; at++ {
		if m.taken[at] {
			l = append(l, at)
		}
	}
	return l
}

func (m model) take(n int) (model, []int, api.Errno) {
	free := m.free()
	if n < 0 {
		return m, nil, api.ErrNumber
	}
	if n > len(free) {
		return m, nil, api.ErrFull
	}
	m.taken, m.data = slices.Clone(m.taken), slices.Clone(m.data)
	for _, at := range free[:n] {
		m.taken[at], m.data[at] = true, zeros
	}
	return m, free[:n], api.OK
}

func (m model) give(l []int) (model, api.Errno) {
	for _, at := range l {
		if at < first(m.n) || at >= m.n {
			return m, api.ErrPlace
		}
	}
	for i, at := range l {
		if !m.taken[at] || slices.Contains(l[:i], at) {
			return m, api.ErrNone
		}
	}
	m.taken = slices.Clone(m.taken)
	for _, at := range l {
		m.taken[at] = false
	}
	return m, api.OK
}

// upTo is the numbers from a to b.
func upTo(a, b int) []int {
	var l []int
	for i := a; i <= b; i++ {
		l = append(l, i)
	}
	return l
}

// models is images with no data block taken, some, all, and with what is free lying apart, all filled.
func models() []model {
	var l []model
	for _, n := range []int{8, 9, 11, 12, 15, 16, 17, 19, 20, 31, 32, 33, 63, 64, 65, 127, 128, 129, 255, 256, 257, 504, 508, 511, 512} {
		f := first(n)
		var third []int
		for at := f; at < n; at += 3 {
			third = append(third, at)
		}
		for _, taken := range [][]int{
			nil, {f}, {n - 1}, {f, n - 1}, third, upTo(f, n-1), upTo(f, n-2), upTo(f+1, n-1), upTo(f+1, n-2), upTo(f, (f+n)/2), upTo((f+n)/2, n-1),
		} {
			l = append(l, newModel(n, taken...).filled("was"))
		}
	}
	return l
}

// roomy is a list with room behind it, so that who appends to it shares it.
func roomy[T any](l []T) []T {
	return append(make([]T, 0, len(l)+8), l...)
}

// kept asks that a list is as it was, the room behind it too.
func kept[T comparable](t *testing.T, what string, l, was []T) {
	t.Helper()
	var none T
	for i, v := range l[:cap(l)] {
		if i < len(was) && v != was[i] || i >= len(was) && v != none {
			t.Errorf("%s: what was handed in is changed at %d", what, i)
			return
		}
	}
}

// spoil changes all of a list that was told, the room behind it too.
func spoil[T any](l []T, with T) {
	for i := range l[:cap(l)] {
		l[:cap(l)][i] = with
	}
}

// sames asks that an image is one that is meant.
func sames(t *testing.T, what string, img []string, m model) {
	t.Helper()
	if !slices.Equal(img, m.image()) {
		t.Errorf("%s: another image: %q, not %q", what, img, m.image())
	}
}

// taking does Take on a model's image, and asks for all that is promised of it.
func taking(t *testing.T, m model, n int) (model, []int) {
	t.Helper()
	what := fmt.Sprintf("Take of %d blocks, %d free, %d", m.n, len(m.free()), n)
	in := roomy(m.image())
	out, l, e := alloc.Take(in, n)
	want, places, err := m.take(n)
	if e != err {
		t.Fatalf("%s: %v, not %v", what, e, err)
	}
	sames(t, what, out, want)
	if !slices.Equal(l, places) {
		t.Errorf("%s: %d, not %d", what, l, places)
	}
	if !alloc.Fit(out) {
		t.Errorf("%s: not fit behind", what)
	}
	kept(t, what, in, m.image())
	spoil(out, "spoilt")
	spoil(l, -1)
	kept(t, what+", what is told being changed", in, m.image())
	return want, places
}

// giving does Give likewise.
func giving(t *testing.T, m model, l []int) model {
	t.Helper()
	what := fmt.Sprintf("Give of %d blocks, %d free, %d", m.n, len(m.free()), l)
	in, places := roomy(m.image()), roomy(l)
	out, e := alloc.Give(in, places)
	want, err := m.give(l)
	if e != err {
		t.Fatalf("%s: %v, not %v", what, e, err)
	}
	sames(t, what, out, want)
	if !alloc.Fit(out) {
		t.Errorf("%s: not fit behind", what)
	}
	kept(t, what, in, m.image())
	kept(t, what, places, l)
	spoil(out, "spoilt")
	kept(t, what+", what is told being changed", in, m.image())
	kept(t, what+", what is told being changed", places, l)
	return want
}

// P4.1: every count of blocks that may be, and what the chapter says of its parts.
func TestMake(t *testing.T) {
	for n := minBlocks; n <= maxBlocks; n++ {
		img, e := alloc.Make(n)
		if e != api.OK {
			t.Fatalf("Make(%d): %v", n, e)
		}
		sames(t, fmt.Sprintf("Make(%d)", n), img, newModel(n))
		if !alloc.Fit(img) {
			t.Errorf("Make(%d) is not fit", n)
		}
	}
}

// P4.1: bytes of some images, written out.
func TestMakeBytes(t *testing.T) {
	tests := []struct {
		n         int
		head, bit string
	}{
		{8, "AFS1\x00\x08\x00\x04", "\x07"},
		{15, "AFS1\x00\x0f\x00\x04", "\x07"},
		{16, "AFS1\x00\x10\x00\x04", "\x07"},
		{31, "AFS1\x00\x1f\x00\x04", "\x07"},
		{32, "AFS1\x00\x20\x00\x08", "\x0f"},
		{48, "AFS1\x00\x30\x00\x0c", "\x1f"},
		{96, "AFS1\x00\x60\x00\x18", "\xff"},
		{112, "AFS1\x00\x70\x00\x1c", "\xff\x01"},
		{255, "AFS1\x00\xff\x00\x3c", "\xff\xff\x01"},
		{256, "AFS1\x01\x00\x00\x40", "\xff\xff\x03"},
		{511, "AFS1\x01\xff\x00\x7c", "\xff\xff\xff\xff\x01"},
		{512, "AFS1\x02\x00\x00\x80", "\xff\xff\xff\xff\x03"},
	}
	for _, test := range tests {
		img, e := alloc.Make(test.n)
		if e != api.OK || len(img) != test.n {
			t.Fatalf("Make(%d): %d blocks, %v", test.n, len(img), e)
		}
		if img[0] != test.head+zeros[len(test.head):] || img[1] != test.bit+zeros[len(test.bit):] {
			t.Errorf("Make(%d): %q, %q", test.n, img[0], img[1])
		}
		for at, block := range img[2:] {
			if block != zeros {
				t.Errorf("Make(%d): block %d is not of zeros", test.n, 2+at)
			}
		}
	}
}

// P4.1: counts that may not be.
func TestMakeErrors(t *testing.T) {
	for _, n := range slices.Concat(far, upTo(-20, minBlocks-1), upTo(maxBlocks+1, 1100), []int{65535, 65536, 65544, 1<<32 + 8}) {
		img, e := alloc.Make(n)
		if e != api.ErrNumber || len(img) != 0 {
			t.Errorf("Make(%d): %d blocks, %v", n, len(img), e)
		}
	}
}

// P4.1: what is told is new each time.
func TestMakeShares(t *testing.T) {
	a, _ := alloc.Make(16)
	spoil(a, "spoilt")
	b, _ := alloc.Make(16)
	sames(t, "Make, what was told being changed", b, newModel(16))
}

// P4.1: images that can be, whatever stands behind the map.
func TestFit(t *testing.T) {
	for _, m := range models() {
		in := roomy(m.image())
		if !alloc.Fit(in) {
			t.Errorf("Fit of %d blocks, %d free: false", m.n, len(m.free()))
		}
		kept(t, "Fit", in, m.image())
	}
}

// P4.1: images that are wrong in one part.
func TestFitNot(t *testing.T) {
	for _, m := range models() {
		for _, wrong := range wrongs(m) {
			img := m.image()
			wrong.do(&img)
			if alloc.Fit(img) {
				t.Errorf("Fit of %d blocks, %d free, %s: true", m.n, len(m.free()), wrong.what)
			}
		}
	}
}

// wrong is something that no image has.
type wrong struct {
	what string
	do   func(img *[]string)
}

// wrongs is what may be wrong of an image.
func wrongs(m model) []wrong {
	l := []wrong{
		{"one block less", func(img *[]string) { *img = (*img)[:m.n-1] }},
		{"one block more", func(img *[]string) { *img = append(*img, zeros) }},
		{"four blocks more", func(img *[]string) { *img = append(*img, zeros, zeros, zeros, zeros) }},
		{"no block", func(img *[]string) { *img = nil }},
		{"the first block alone", func(img *[]string) { *img = (*img)[:1] }},
		{"the first two blocks alone", func(img *[]string) { *img = (*img)[:2] }},
		{"a map of zeros", func(img *[]string) { (*img)[1] = zeros }},
		{"a map of ones", func(img *[]string) { (*img)[1] = strings.Repeat("\xff", api.BlockSize) }},
		{"blocks 0 and 1 the other way round", func(img *[]string) { (*img)[0], (*img)[1] = (*img)[1], (*img)[0] }},
	}
	for at := range m.n {
		l = append(l,
			wrong{fmt.Sprint("no bytes in block ", at), func(img *[]string) { (*img)[at] = "" }},
			wrong{fmt.Sprint("a byte less in block ", at), func(img *[]string) { (*img)[at] = (*img)[at][:api.BlockSize-1] }},
			wrong{fmt.Sprint("a byte more in block ", at), func(img *[]string) { (*img)[at] += "\x00" }})
	}
	for i := range api.BlockSize {
		for _, x := range []byte{1, 0x80, 0xff, 0x20} {
			l = append(l, wrong{fmt.Sprintf("byte %d of block 0 other by %x", i, x), turnByte(0, i, x)})
		}
	}
	for bit := range 8 * api.BlockSize {
		if bit < first(m.n) || bit >= m.n {
			l = append(l, wrong{fmt.Sprintf("bit %d turned", bit), turnByte(1, bit/8, 1<<(bit%8))})
		}
	}
	return l
}

// turnByte turns bits of a byte of a block.
func turnByte(at, i int, x byte) func(img *[]string) {
	return func(img *[]string) {
		b := []byte((*img)[at])
		b[i] ^= x
		(*img)[at] = string(b)
	}
}

// P4.1: each bit of a data block is free to stand or not.
func TestFitBits(t *testing.T) {
	for _, n := range []int{8, 16, 33, 512} {
		for at := first(n); at < n; at++ {
			if img := newModel(n, at).image(); !alloc.Fit(img) {
				t.Errorf("Fit of %d blocks, %d taken: false", n, at)
			}
		}
	}
}

// P4.1: lists of blocks of all lengths that are none, and a head that says otherwise than the blocks are.
func TestFitCounts(t *testing.T) {
	for _, n := range slices.Concat(upTo(0, minBlocks-1), upTo(maxBlocks+1, maxBlocks+9), []int{1023, 1024, 1025, 2000, 65544}) {
		img := slices.Repeat([]string{zeros}, n)
		head := "AFS1" + string([]byte{byte(n >> 8), byte(n), byte(n / 4 &^ 3 >> 8), byte(n / 4 &^ 3)})
		for _, h := range []string{head, "AFS1" + string([]byte{byte(n >> 8), byte(n), 0, 4})} {
			for _, bits := range []string{"\x07", "\xff\xff\xff\xff\x03"} {
				if n > 0 {
					img[0] = h + zeros[len(h):]
				}
				if n > 1 {
					img[1] = bits + zeros[len(bits):]
				}
				if alloc.Fit(img) {
					t.Errorf("Fit of %d blocks: true", n)
				}
			}
		}
	}
	if alloc.Fit(nil) || alloc.Fit([]string{}) {
		t.Error("Fit of no block: true")
	}
	for _, n := range []int{8, 16, 100, 512} {
		if alloc.Fit(slices.Repeat([]string{zeros}, n)) || alloc.Fit(make([]string, n)) {
			t.Errorf("Fit of %d blocks that are none: true", n)
		}
	}
}

// P4.2: how many inodes, and where data begins.
func TestInodesFirst(t *testing.T) {
	for n := minBlocks; n <= maxBlocks; n++ {
		img := newModel(n).image()
		if alloc.Inodes(img) != inodes(n) || alloc.First(img) != first(n) {
			t.Errorf("%d blocks: %d inodes, not %d; %d first, not %d", n, alloc.Inodes(img), inodes(n), alloc.First(img), first(n))
		}
	}
	tests := []struct{ n, inodes, first int }{
		{8, 4, 3}, {15, 4, 3}, {16, 4, 3}, {31, 4, 3}, {32, 8, 4}, {47, 8, 4}, {48, 12, 5}, {100, 24, 8}, {511, 124, 33}, {512, 128, 34},
	}
	for _, test := range tests {
		img, _ := alloc.Make(test.n)
		if alloc.Inodes(img) != test.inodes || alloc.First(img) != test.first {
			t.Errorf("%d blocks: %d inodes, %d first", test.n, alloc.Inodes(img), alloc.First(img))
		}
	}
}

// P4.2: of each block, and of none.
func TestTaken(t *testing.T) {
	for _, m := range models() {
		in := roomy(m.image())
		for at := range m.n {
			if alloc.Taken(in, at) != m.taken[at] {
				t.Errorf("Taken of %d blocks, %d free, %d: not %v", m.n, len(m.free()), at, m.taken[at])
			}
		}
		for _, at := range slices.Concat(far, upTo(-20, -1), upTo(m.n, m.n+20), []int{-8 * api.BlockSize, 1023, 1024, 1025}) {
			if alloc.Taken(in, at) {
				t.Errorf("Taken of %d blocks, %d free, %d: true", m.n, len(m.free()), at)
			}
		}
		kept(t, "Taken", in, m.image())
	}
}

// P4.2, P4.5: what is free and what is taken add up.
func TestFree(t *testing.T) {
	for _, m := range models() {
		in := roomy(m.image())
		if n := alloc.Free(in); n != len(m.free()) || n+len(m.used()) != m.n-first(m.n) {
			t.Errorf("Free of %d blocks: %d, not %d", m.n, n, len(m.free()))
		}
		kept(t, "Free", in, m.image())
	}
}

// P4.3, P4.5: numbers below 0, all that can be taken, and more.
func TestTake(t *testing.T) {
	for _, m := range models() {
		free := len(m.free())
		for _, n := range slices.Concat(far, upTo(-3, min(free, 5)+1), upTo(max(free-3, 0), free+3), []int{free / 2, m.n - first(m.n), m.n - first(m.n) + 1, m.n, m.n + 1}) {
			behind, l := taking(t, m, n)
			img := behind.image()
			if alloc.Free(img)+len(l) != free {
				t.Errorf("Take of %d blocks, %d free, %d: %d free behind", m.n, free, n, alloc.Free(img))
			}
		}
	}
}

// P4.3: what is taken is zeros then, and nothing else is changed; with what is free lying apart.
func TestTakeZeros(t *testing.T) {
	img := newModel(16, 3, 5, 6, 9, 15).filled("was").image()
	out, l, e := alloc.Take(img, 4)
	if e != api.OK || !slices.Equal(l, []int{4, 7, 8, 10}) {
		t.Fatalf("%d, %v", l, e)
	}
	for at := range out {
		switch {
		case at == 1:
			if out[at] != "\xff\x87"+zeros[2:] {
				t.Errorf("the map: %q", out[at])
			}
		case slices.Contains(l, at):
			if out[at] != zeros {
				t.Errorf("block %d was taken and is not of zeros", at)
			}
		case out[at] != img[at]:
			t.Errorf("block %d is another", at)
		}
	}
}

// P4.4, P4.5: lists that are empty, that hold all that is taken, in any order, and each block alone.
func TestGive(t *testing.T) {
	for _, m := range models() {
		giving(t, m, nil)
		giving(t, m, []int{})
		used := m.used()
		giving(t, m, used)
		back := slices.Clone(used)
		slices.Reverse(back)
		giving(t, m, back)
		rand.New(rand.NewPCG(4, uint64(m.n))).Shuffle(len(back), func(i, j int) { back[i], back[j] = back[j], back[i] })
		giving(t, m, back)
		giving(t, m, back[:len(back)/2])
	}
	for _, n := range []int{8, 20, 40} {
		f := first(n)
		for _, m := range []model{newModel(n), newModel(n, f), newModel(n, f+1, n-1), newModel(n, upTo(f, n-1)...)} {
			for at := -2; at < n+3; at++ {
				giving(t, m, []int{at})
			}
		}
	}
}

// P4.4: what is no data block, not taken, or stands twice, anywhere in the list; no data block comes first.
func TestGiveErrors(t *testing.T) {
	m := newModel(40, 6, 7, 9, 20, 38, 39).filled("was") // data from 4 on
	tests := []struct {
		l []int
		e api.Errno
	}{
		{[]int{0}, api.ErrPlace},
		{[]int{1}, api.ErrPlace},
		{[]int{2}, api.ErrPlace},
		{[]int{3}, api.ErrPlace},
		{[]int{-1}, api.ErrPlace},
		{[]int{40}, api.ErrPlace},
		{[]int{41}, api.ErrPlace},
		{[]int{1023}, api.ErrPlace},
		{[]int{1024}, api.ErrPlace},
		{[]int{math.MinInt}, api.ErrPlace},
		{[]int{math.MaxInt}, api.ErrPlace},
		{[]int{3, 6}, api.ErrPlace},
		{[]int{6, 3}, api.ErrPlace},
		{[]int{6, 7, 9, 20, 38, 39, 40}, api.ErrPlace},
		{[]int{6, 7, -1, 9}, api.ErrPlace},
		{[]int{4}, api.ErrNone},
		{[]int{5}, api.ErrNone},
		{[]int{37}, api.ErrNone},
		{[]int{6, 4}, api.ErrNone},
		{[]int{4, 6}, api.ErrNone},
		{[]int{6, 6}, api.ErrNone},
		{[]int{6, 7, 6}, api.ErrNone},
		{[]int{6, 7, 9, 20, 38, 39, 39}, api.ErrNone},
		{[]int{4, 4}, api.ErrNone},
		{[]int{4, 3}, api.ErrPlace},
		{[]int{3, 4}, api.ErrPlace},
		{[]int{6, 6, 40}, api.ErrPlace},
		{[]int{40, 6, 6}, api.ErrPlace},
		{[]int{6, 6, 4, 3}, api.ErrPlace},
		{[]int{3, 3}, api.ErrPlace},
		{[]int{6, 39}, api.OK},
		{[]int{39, 6}, api.OK},
	}
	for _, test := range tests {
		giving(t, m, test.l)
		if _, e := alloc.Give(m.image(), test.l); e != test.e {
			t.Errorf("Give(%d): %v, not %v", test.l, e, test.e)
		}
	}
	long := slices.Repeat([]int{6}, 100000)
	if _, e := alloc.Give(m.image(), long); e != api.ErrNone {
		t.Errorf("a long list: %v", e)
	}
	if _, e := alloc.Give(m.image(), append(long, 2)); e != api.ErrPlace {
		t.Errorf("a long list with no data block at its end: %v", e)
	}
}

// P4.4: what is given back holds what it did.
func TestGiveHolds(t *testing.T) {
	img := newModel(16, upTo(3, 15)...).filled("was").image()
	out, e := alloc.Give(img, []int{15, 3, 8})
	if e != api.OK {
		t.Fatal(e)
	}
	for at := range out {
		if at != 1 && out[at] != img[at] {
			t.Errorf("block %d is another", at)
		}
	}
	if out[1] != "\xf7\x7e"+zeros[2:] {
		t.Errorf("the map: %q", out[1])
	}
}

// P4.5, P4.6: all numbers that can be taken of all images of few blocks; what was taken and is given back, in any order, leaves the map as it was.
func TestTakeGive(t *testing.T) {
	for _, n := range []int{8, 9, 10} {
		data := upTo(first(n), n-1)
		for set := range 1 << len(data) {
			var taken []int
			for i, at := range data {
				if set>>i&1 == 1 {
					taken = append(taken, at)
				}
			}
			m := newModel(n, taken...).filled("was")
			for k := range len(data) + 2 {
				behind, l := taking(t, m, k)
				back := slices.Clone(l)
				slices.Reverse(back)
				for _, order := range [][]int{l, back} {
					if giving(t, behind, order).image()[1] != m.image()[1] {
						t.Errorf("%d blocks, %d taken, %d: another map behind", n, taken, k)
					}
				}
			}
		}
	}
}

// P4.3 to P4.6: long rows of calls on one image.
func TestRows(t *testing.T) {
	for seed := range uint64(12) {
		r := rand.New(rand.NewPCG(44, seed))
		n := minBlocks + r.IntN(maxBlocks-minBlocks+1)
		m := newModel(n)
		img, _ := alloc.Make(n)
		for step := range 150 {
			var e, err api.Errno
			if r.IntN(2) == 0 {
				var l, places []int
				k := r.IntN(len(m.free())/3 + 3)
				img, l, e = alloc.Take(img, k)
				m, places, err = m.take(k)
				if !slices.Equal(l, places) {
					t.Fatalf("seed %d, step %d: %d, not %d", seed, step, l, places)
				}
				for _, at := range l {
					img[at] = (fmt.Sprint(step, " ") + zeros)[:api.BlockSize]
					m.data[at] = img[at]
				}
			} else {
				used := m.used()
				r.Shuffle(len(used), func(i, j int) { used[i], used[j] = used[j], used[i] })
				l := used[:r.IntN(len(used)+1)]
				if r.IntN(8) == 0 {
					l = append(slices.Clone(l), r.IntN(n+2)-1)
				}
				img, e = alloc.Give(img, l)
				m, err = m.give(l)
			}
			if e != err || !slices.Equal(img, m.image()) || !alloc.Fit(img) || alloc.Free(img) != len(m.free()) {
				t.Fatalf("seed %d, step %d: %v, not %v, or another image", seed, step, e, err)
			}
		}
	}
}

// 0.1: images that are none.
func TestUnfit(t *testing.T) {
	blocks := []string{"", "a", "\xff", zeros, zeros[1:], zeros + "\x00", strings.Repeat("\xff", api.BlockSize), strings.Repeat("\xff", 20), strings.Repeat("\x00", 3)}
	for _, n := range []int{0, 1, 2, 3, 4, 5, 7, 8, 9, 16, 64, 512, 513, 1024, 1025, 3000} {
		for _, head := range blocks {
			for _, bits := range blocks {
				for _, rest := range []string{"", zeros, "a"} {
					img := slices.Repeat([]string{rest}, n)
					copy(img, []string{head, bits})
					all(img)
				}
			}
		}
	}
	all(nil)
}

// all does every call on an image.
func all(img []string) {
	alloc.Fit(img)
	alloc.Inodes(img)
	alloc.First(img)
	alloc.Free(img)
	for _, at := range slices.Concat(far, upTo(-2, 5), []int{127, 128, 1023, 1024, len(img) - 1, len(img), len(img) + 1}) {
		alloc.Taken(img, at)
		alloc.Take(img, at)
		alloc.Give(img, []int{at})
		alloc.Give(img, []int{at, at, 3})
	}
	alloc.Give(img, nil)
}

// The chapter's example.
func TestExample(t *testing.T) {
	img, e := alloc.Make(16)
	if e != api.OK || alloc.Inodes(img) != 4 || alloc.First(img) != 3 || alloc.Free(img) != 13 {
		t.Error("Make(16)")
	}
	img, l, e := alloc.Take(img, 2)
	if e != api.OK || !slices.Equal(l, []int{3, 4}) {
		t.Errorf("Take(2): %d, %v", l, e)
	}
	img, e = alloc.Give(img, []int{4})
	if e != api.OK {
		t.Errorf("Give(4): %v", e)
	}
	img, l, e = alloc.Take(img, 1)
	if e != api.OK || !slices.Equal(l, []int{4}) {
		t.Errorf("Take(1): %d, %v", l, e)
	}
	if _, e = alloc.Give(img, []int{2}); e != api.ErrPlace {
		t.Errorf("Give(2): %v", e)
	}
}
