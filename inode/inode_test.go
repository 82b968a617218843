package inode_test

import (
	"encoding/binary"
	"fmt"
	"math"
	"math/rand/v2"
	"slices"
	"strings"
	"testing"

	"almanac/alloc"
	"almanac/api"
	"almanac/inode"
)

const (
	maxBlocks = 512
	perList   = 64
)

// far is numbers that lie far from all bounds.
var far = []int{math.MinInt, math.MinInt + 1, math.MinInt32, -1 << 20, -257, 1 << 20, math.MaxInt32, math.MaxInt32 + 1, 1 << 32, 1<<32 + 1, math.MaxInt - api.MaxFile, math.MaxInt - 1, math.MaxInt}

// sizes is sizes at and around each bound.
var sizes = []int{0, 1, 2, 127, 128, 129, 255, 256, 257, 383, 384, 385, 511, 512, 513, 639, 640, 641, 767, 768, 769, 4000, 4224, 8575, 8576, 8577, 8703, 8704}

// file is an inode as it is meant.
type file struct {
	kind int
	data string
	at   []int
	list int // the indirect block; 0: none
}

// named is all blocks of it.
func (f file) named() []int {
	if f.list == 0 {
		return f.at
	}
	return append(slices.Clone(f.at), f.list)
}

// model is an image as it is meant: its inodes, and what blocks hold that none of them names.
type model struct {
	n     int
	files []file
	old   []string
}

func inodes(n int) int { return max(n/16*4, 4) }

func first(n int) int { return 2 + inodes(n)/4 }

func zeros(n int) string { return string(make([]byte, n)) }

func newModel(n int) model {
	m := model{n: n, files: make([]file, inodes(n))}
	for at := range n {
		m.old = append(m.old, (fmt.Sprint("old ", at, " ") + strings.Repeat("~", api.BlockSize))[:api.BlockSize])
	}
	return m
}

// with is the model with an inode laid on blocks of one's own choice: the data blocks, the indirect one behind.
func (m model) with(i, kind int, data string, places ...int) model {
	m.files = slices.Clone(m.files)
	n := (len(data) + api.BlockSize - 1) / api.BlockSize
	m.files[i] = file{kind: kind, data: data, at: places[:n]}
	if n > api.Direct {
		m.files[i].list = places[n]
	}
	return m
}

// free is the data blocks that no inode names.
func (m model) free() []int {
	used := make([]bool, m.n)
	for _, f := range m.files {
		for _, at := range f.named() {
			used[at] = true
		}
	}
	var l []int
	for at := first(m.n); at < m.n; at++ {
		if !used[at] {
			l = append(l, at)
		}
	}
	return l
}

// scattered is the model with an inode on free blocks in no order.
func (m model) scattered(r *rand.Rand, i, kind int, data string) model {
	free := m.free()
	r.Shuffle(len(free), func(i, j int) { free[i], free[j] = free[j], free[i] })
	return m.with(i, kind, data, free...)
}

// image is the image's bytes.
func (m model) image() []string {
	b := make([][]byte, m.n)
	for at := range b {
		b[at] = make([]byte, api.BlockSize)
	}
	copy(b[0], "AFS1")
	binary.BigEndian.PutUint16(b[0][4:], uint16(m.n))
	binary.BigEndian.PutUint16(b[0][6:], uint16(inodes(m.n)))
	for at := range m.n {
		b[1][at/8] |= 1 << (at % 8)
	}
	for _, at := range m.free() {
		b[1][at/8] &^= 1 << (at % 8)
		copy(b[at], m.old[at])
	}
	for i, f := range m.files {
		s := b[2+i/4][32*(i%4):]
		s[0] = byte(f.kind)
		binary.BigEndian.PutUint32(s[1:], uint32(len(f.data)))
		for k, at := range f.at {
			if k < api.Direct {
				binary.BigEndian.PutUint16(s[5+2*k:], uint16(at))
			} else {
				binary.BigEndian.PutUint16(b[f.list][2*(k-api.Direct):], uint16(at))
			}
			copy(b[at], f.data[api.BlockSize*k:])
		}
		binary.BigEndian.PutUint16(s[13:], uint16(f.list))
	}
	var img []string
	for at := range b {
		img = append(img, string(b[at]))
	}
	return img
}

// record is what Get tells of an inode.
func (m model) record(i int) api.Inode {
	f := m.files[i]
	in := api.Inode{Kind: f.kind, Size: len(f.data), Indirect: f.list}
	for k := range min(len(f.at), api.Direct) {
		in.Blocks[k] = f.at[k]
	}
	return in
}

// asked is the error of an inode that must be there, and not free.
func (m model) asked(i int) api.Errno {
	switch {
	case i < 0 || i >= len(m.files):
		return api.ErrPlace
	case m.files[i].kind == api.InFree:
		return api.ErrNone
	}
	return api.OK
}

func (m model) new(kind int) (model, int, api.Errno) {
	if kind != api.InFile && kind != api.InDir {
		return m, 0, api.ErrKind
	}
	for i, f := range m.files {
		if f.kind == api.InFree {
			return m.with(i, kind, ""), i, api.OK
		}
	}
	return m, 0, api.ErrFull
}

func (m model) drop(i int) (model, api.Errno) {
	if e := m.asked(i); e != api.OK {
		return m, e
	}
	m.old = m.image()
	return m.with(i, api.InFree, ""), api.OK
}

func (m model) truncate(i, size int) (model, api.Errno) {
	switch e := m.asked(i); {
	case e != api.OK:
		return m, e
	case size < 0:
		return m, api.ErrNumber
	case size > api.MaxFile:
		return m, api.ErrLong
	}
	return m.holding(i, (m.files[i].data + zeros(size))[:size])
}

func (m model) write(i, at int, data string) (model, api.Errno) {
	switch e := m.asked(i); {
	case e != api.OK:
		return m, e
	case at < 0:
		return m, api.ErrNumber
	case at > api.MaxFile || at+len(data) > api.MaxFile:
		return m, api.ErrLong
	}
	b := []byte(m.files[i].data)
	for len(b) < at+len(data) {
		b = append(b, 0)
	}
	copy(b[at:], data)
	return m.holding(i, string(b))
}

// holding is the model with other data in an inode: blocks go from behind, the lowest free ones come.
func (m model) holding(i int, data string) (model, api.Errno) {
	f, free := m.files[i], m.free()
	want := (len(data) + api.BlockSize - 1) / api.BlockSize
	places := slices.Clone(f.at[:min(want, len(f.at))])
	for len(places) < want && len(free) > 0 {
		places, free = append(places, free[0]), free[1:]
	}
	if want > api.Direct && f.list != 0 {
		places = append(places, f.list)
	} else if want > api.Direct && len(free) > 0 {
		places = append(places, free[0])
	}
	if len(places) < want || want > api.Direct && len(places) == want {
		return m, api.ErrFull
	}
	m.old = m.image()
	return m.with(i, f.kind, data, places...), api.OK
}

// upTo is the numbers from a to b.
func upTo(a, b int) []int {
	var l []int
	for i := a; i <= b; i++ {
		l = append(l, i)
	}
	return l
}

// bytes is data without a zero, another one by each salt.
func bytes(salt, n int) string {
	b := make([]byte, n)
	for i := range b {
		b[i] = byte(1 + (salt*37+i*11+i/api.BlockSize*5)%255)
	}
	return string(b)
}

// hogged is the model with all blocks but so many taken by files of up to four blocks.
func (m model) hogged(left int) model {
	for i, f := range m.files {
		n := min(len(m.free())-left, api.Direct)
		if f.kind == api.InFree && n > 0 {
			m = m.with(i, api.InFile, bytes(i, api.BlockSize*n-i%100), m.free()[left:]...)
		}
	}
	return m
}

// roomy is a list with room behind it, so that who appends to it shares it.
func roomy[T any](l []T) []T {
	return append(make([]T, 0, len(l)+8), l...)
}

// kept asks that a list is as it was, the room behind it too.
func kept(t *testing.T, what string, l, was []string) {
	t.Helper()
	for i, v := range l[:cap(l)] {
		if i < len(was) && v != was[i] || i >= len(was) && v != "" {
			t.Errorf("%s: what was handed in is changed at %d", what, i)
			return
		}
	}
}

// spoil changes all of a list that was told, the room behind it too.
func spoil[T any](l []T, with T) {
	for i := range l[:cap(l)] {
		l[:cap(l)][i] = with
	}
}

// behind asks for all that is promised of an image that a call tells.
func behind(t *testing.T, what string, in, out []string, was, want model, e, err api.Errno) {
	t.Helper()
	if e != err {
		t.Fatalf("%s: %v, not %v", what, e, err)
	}
	if !slices.Equal(out, want.image()) {
		t.Fatalf("%s: another image: %q, not %q", what, out, want.image())
	}
	if !inode.Sound(out) {
		t.Errorf("%s: not sound behind", what)
	}
	for i := range want.files {
		s, e := inode.Read(out, i)
		if e != want.asked(i) || s != want.files[i].data {
			t.Errorf("%s: %d holds %q behind, %v", what, i, s, e)
		}
	}
	kept(t, what, in, was.image())
	spoil(out, "spoilt")
	kept(t, what+", what is told being changed", in, was.image())
}

// making does New on a model's image, and asks for all that is promised of it.
func making(t *testing.T, m model, kind int) model {
	t.Helper()
	in := roomy(m.image())
	out, i, e := inode.New(in, kind)
	want, at, err := m.new(kind)
	what := fmt.Sprintf("New of %d blocks, %d", m.n, kind)
	if i != at {
		t.Errorf("%s: %d, not %d", what, i, at)
	}
	behind(t, what, in, out, m, want, e, err)
	return want
}

// dropping does Drop likewise.
func dropping(t *testing.T, m model, i int) model {
	t.Helper()
	in := roomy(m.image())
	out, e := inode.Drop(in, i)
	want, err := m.drop(i)
	behind(t, fmt.Sprintf("Drop of %d blocks, %d", m.n, i), in, out, m, want, e, err)
	return want
}

// cutting does Truncate likewise.
func cutting(t *testing.T, m model, i, size int) (model, api.Errno) {
	t.Helper()
	in := roomy(m.image())
	out, e := inode.Truncate(in, i, size)
	want, err := m.truncate(i, size)
	behind(t, fmt.Sprintf("Truncate of %d blocks, %d free, %d to %d", m.n, len(m.free()), i, size), in, out, m, want, e, err)
	return want, e
}

// writing does Write likewise.
func writing(t *testing.T, m model, i, at int, data string) (model, api.Errno) {
	t.Helper()
	in := roomy(m.image())
	out, e := inode.Write(in, i, at, data)
	want, err := m.write(i, at, data)
	behind(t, fmt.Sprintf("Write of %d blocks, %d free, %d at %d, %d bytes", m.n, len(m.free()), i, at, len(data)), in, out, m, want, e, err)
	return want, e
}

// telling asks for all that Get, Read and Blocks tell of an image, of inodes that are none too.
func telling(t *testing.T, m model) {
	t.Helper()
	in := roomy(m.image())
	for _, i := range slices.Concat(far, upTo(-5, len(m.files)+5), []int{4 * m.n, 1024, 65536, -32, -128}) {
		what := fmt.Sprintf("inode %d of %d blocks", i, m.n)
		var record api.Inode
		var data string
		var named []int
		here := api.ErrPlace
		if i >= 0 && i < len(m.files) {
			record, data, named, here = m.record(i), m.files[i].data, m.files[i].named(), api.OK
		}
		if got, e := inode.Get(in, i); got != record || e != here {
			t.Errorf("%s: Get: %v, %v", what, got, e)
		}
		if got, e := inode.Read(in, i); got != data || e != m.asked(i) {
			t.Errorf("%s: Read: %q, %v", what, got, e)
		}
		got := inode.Blocks(in, i)
		if !slices.Equal(got, named) {
			t.Errorf("%s: Blocks: %d, not %d", what, got, named)
		}
		spoil(got, 0)
		if got = inode.Blocks(in, i); !slices.Equal(got, named) {
			t.Errorf("%s: Blocks, what was told being changed: %d, not %d", what, got, named)
		}
	}
	kept(t, fmt.Sprintf("telling of %d blocks", m.n), in, m.image())
}

// mixed is an image of 256 blocks with inodes of all kinds of sizes, in no order, free ones among them, and with blocks to spare.
func mixed(seed uint64) model {
	r := rand.New(rand.NewPCG(55, seed))
	m := newModel(256)
	for k, size := range []int{0, 1, 128, 130, 384, 512, 513, 700, 640, 8704, 1100, 127} {
		m = m.scattered(r, 3*k+k%2, api.InFile+k%2, bytes(k, size))
	}
	return m
}

// models is images with nothing, with one inode of each size, with all inodes, with no block left, and mixed ones.
func models() []model {
	var l []model
	for _, n := range []int{8, 9, 15, 16, 31, 32, 33, 64, 128, 500, 511, 512} {
		r := rand.New(rand.NewPCG(5, uint64(n)))
		none := newModel(n)
		all, full := none, none
		for i := range all.files {
			all = all.with(i, api.InFile+i%2, "")
		}
		l = append(l, none, all, full.hogged(0), full.hogged(3))
		for _, size := range sizes {
			if size <= 128*4 && size/128 < n-first(n) || size > 128*4 && size/128+2 <= n-first(n) {
				l = append(l, none.scattered(r, r.IntN(len(none.files)), api.InDir, bytes(n, size)))
			}
		}
	}
	for seed := range uint64(3) {
		l = append(l, mixed(seed))
	}
	return l
}

// P5.1, P5.2, P5.5, P5.8: sound images, whatever free blocks hold, and in whatever order blocks lie.
func TestTelling(t *testing.T) {
	for _, m := range models() {
		in := roomy(m.image())
		if !inode.Sound(in) {
			t.Errorf("Sound of %d blocks, %d free: false", m.n, len(m.free()))
		}
		kept(t, "Sound", in, m.image())
		telling(t, m)
	}
}

// P5.1: what lies where, written out.
func TestBytes(t *testing.T) {
	m := newModel(48).with(5, api.InDir, bytes(1, 130), 47, 9).with(2, api.InFile, bytes(2, 600), 11, 10, 8, 7, 6, 46)
	img := m.image()
	if s := img[3][32:64]; s != "\x02\x00\x00\x00\x82\x00\x2f\x00\x09"+zeros(23) {
		t.Fatalf("the image 5: %q", s)
	}
	if s := img[2][64:96]; s != "\x01\x00\x00\x02\x58\x00\x0b\x00\x0a\x00\x08\x00\x07\x00\x2e"+zeros(17) {
		t.Fatalf("the image 2: %q", s)
	}
	if img[46] != "\x00\x06"+zeros(126) || img[6] != bytes(2, 600)[512:]+zeros(40) || img[9] != bytes(1, 130)[128:]+zeros(126) {
		t.Fatal("the image's data")
	}
	telling(t, m)
	if !inode.Sound(img) {
		t.Error("not sound")
	}
	out, e := inode.Truncate(img, 5, 513)
	if e != api.OK || out[3][32:64] != "\x02\x00\x00\x02\x01\x00\x2f\x00\x09\x00\x05\x00\x0c\x00\x0e"+zeros(17) || out[14] != "\x00\x0d"+zeros(126) {
		t.Errorf("Truncate to 513: %q, %v", out[3][32:64], e)
	}
}

// wrong is something done to an image.
type wrong struct {
	what string
	do   func(img []string)
}

// set is other bytes in a block.
func set(at, from int, s string) func(img []string) {
	return func(img []string) {
		img[at] = img[at][:from] + s + img[at][from+len(s):]
	}
}

// both does two things.
func both(l ...func(img []string)) func(img []string) {
	return func(img []string) {
		for _, do := range l {
			do(img)
		}
	}
}

// turned turns a block's bit of the map.
func turned(at int) func(img []string) {
	return func(img []string) {
		b := []byte(img[1])
		b[at/8] ^= 1 << (at % 8)
		img[1] = string(b)
	}
}

// word is a number in two bytes.
func word(n int) string { return string([]byte{byte(n >> 8), byte(n)}) }

// P5.1: images that are wrong in one part, and some that are not, though they are changed.
func TestSoundNot(t *testing.T) {
	// Data from 8 on. 0: nothing in it; 1: two blocks; 2: four; 3: six and the indirect one, 20; 4: free; 5: all that an inode can.
	m := newModel(96).with(0, api.InFile, "").with(1, api.InDir, bytes(1, 130), 9, 24).with(2, api.InFile, bytes(2, 512), 10, 11, 12, 13).
		with(3, api.InFile, bytes(3, 700), 14, 15, 16, 17, 18, 19, 20).with(5, api.InDir, bytes(5, 8704), upTo(25, 93)...)
	at := func(i, from int, s string) func(img []string) { return set(2+i/4, 32*(i%4)+from, s) }
	size := func(i, n int) func(img []string) {
		return at(i, 1, string([]byte{byte(n >> 24), byte(n >> 16), byte(n >> 8), byte(n)}))
	}
	block := func(i, k, n int) func(img []string) { return at(i, 5+2*k, word(n)) }
	bad := []wrong{
		{"a kind 0 of an empty one with a size", both(at(0, 0, "\x00"), size(0, 1))},
		{"a kind 0 of one with blocks", at(1, 0, "\x00")},
		{"a kind 3", at(0, 0, "\x03")},
		{"a kind 3 of one with blocks", at(3, 0, "\x03")},
		{"a kind 3 of a free one", at(4, 0, "\x03")},
		{"a kind 255", at(1, 0, "\xff")},
		{"a kind 129", at(1, 0, "\x81")},
		{"a free one with a size", at(4, 4, "\x01")},
		{"a free one with a block", both(block(4, 0, 21), turned(21))},
		{"a free one with an indirect block", both(block(4, 4, 21), turned(21))},
		{"a free one with a last byte", at(4, 31, "\x01")},
		{"a size of 1 without a block", size(0, 1)},
		{"a size of 128 with two blocks", size(1, 128)},
		{"a size of 0 with two blocks", size(1, 0)},
		{"a size of 257 with two blocks", size(1, 257)},
		{"a size that ends ahead of what there is", size(1, 129)},
		{"a size of 511 likewise", size(2, 511)},
		{"a size of 513 with four blocks", size(2, 513)},
		{"a size of 640 with six blocks", size(3, 640)},
		{"a size of 769 with six blocks", size(3, 769)},
		{"a size of 512 with six blocks", size(3, 512)},
		{"a size of 8703, the last byte being there", size(5, 8703)},
		{"a size of 8705", size(5, 8705)},
		{"a size of 8704 and 65536", size(5, 8704+65536)},
		{"a size of 130 and 1<<24", size(1, 130+1<<24)},
		{"a size of 1<<31", size(1, 1<<31)},
		{"a size of 1<<32 - 1", size(5, 1<<32-1)},
		{"a size of 1<<31 without a block", size(0, 1<<31)},
		{"an unused number", both(block(1, 2, 21), turned(21))},
		{"an unused number, of a block that is not taken", block(1, 2, 21)},
		{"the last unused number", both(block(1, 3, 21), turned(21))},
		{"an unused number of an empty one", both(block(0, 0, 21), turned(21))},
		{"a number of four that is 0, its block given back", both(block(2, 3, 0), turned(13))},
		{"the first number 0, its block given back", both(block(1, 0, 0), turned(9))},
		{"the first byte behind the numbers", at(1, 15, "\x01")},
		{"the last byte behind the numbers", at(1, 31, "\x80")},
		{"a byte behind the numbers of an empty one", at(0, 20, "\x01")},
		{"a block not taken", turned(9)},
		{"a block not taken, of the indirect one", turned(18)},
		{"the indirect block not taken", turned(20)},
		{"a block that is taken and not named", turned(21)},
		{"the last block, taken and not named", turned(95)},
		{"the first data block, taken and not named", turned(first(96))},
		{"one twice in one inode", both(block(1, 1, 9), turned(24))},
		{"one of another inode", both(block(1, 1, 10), turned(24))},
		{"one of another's indirect block", both(block(1, 1, 18), turned(24))},
		{"another's indirect block", both(block(1, 1, 20), turned(24))},
		{"an indirect block too many", both(block(2, 4, 21), turned(21), set(21, 0, zeros(128)))},
		{"an indirect block too many that is not taken", both(block(2, 4, 21), set(21, 0, zeros(128)))},
		{"an indirect block of an empty one", both(block(0, 4, 21), turned(21), set(21, 0, zeros(128)))},
		{"the indirect block missing", both(block(3, 4, 0), turned(20))},
		{"the indirect block missing, all that it names given back", both(block(3, 4, 0), turned(20), turned(19), turned(18))},
		{"the indirect block of another one", both(block(3, 4, 93), turned(20), turned(18), turned(19))},
		{"an indirect block that is a data block", both(block(3, 4, 14), turned(20))},
		{"an indirect block that names itself", both(set(20, 2, word(20)), turned(19))},
		{"an indirect block that names less", both(set(20, 2, word(0)), turned(19))},
		{"an indirect block that names nothing", both(set(20, 0, zeros(128)), turned(18), turned(19))},
		{"an indirect block that names one more", both(set(20, 4, word(21)), turned(21))},
		{"an indirect block that names one more, not taken", set(20, 4, word(21))},
		{"an indirect block that names one further on", both(set(20, 126, word(21)), turned(21))},
		{"an indirect block that ends otherwise", set(20, 127, "\x01")},
		{"an indirect block that names one twice", both(set(20, 2, word(18)), turned(19))},
		{"an indirect block that names a direct one", both(set(20, 0, word(14)), turned(18))},
		{"a last indirect number that is another's", both(set(93, 126, word(24)), turned(92))},
		{"a byte behind the size", set(24, 2, "\x01")},
		{"the last byte behind the size", set(24, 127, "\x80")},
		{"a byte behind the size in an indirect one's block", set(19, 700-640, " ")},
		{"a size that is less by one with the byte there", size(3, 699)},
	}
	for _, n := range []int{0, 1, 2, first(96) - 1, 96, 97, 255, 256 + 9, 1023, 1024, 65535} {
		bad = append(bad,
			wrong{fmt.Sprint("a direct number ", n), both(block(1, 0, n), turned(9))},
			wrong{fmt.Sprint("a last direct number ", n), both(block(2, 3, n), turned(13))},
			wrong{fmt.Sprint("an indirect number ", n), both(set(20, 2, word(n)), turned(19))},
			wrong{fmt.Sprint("an indirect block ", n), both(block(3, 4, n), turned(18), turned(19), turned(20))})
	}
	good := []wrong{
		{"nothing", both()},
		{"a kind 1 for a 2", at(1, 0, "\x01")},
		{"a kind 2 for a 1", at(3, 0, "\x02")},
		{"an empty one more", at(4, 0, "\x01")},
		{"an empty one less", at(0, 0, "\x00")},
		{"the last inode a directory", at(23, 0, "\x02")},
		{"a size that goes on in zeros", size(1, 131)},
		{"a size that goes on in zeros to the block's end", size(1, 256)},
		{"a size that ends with the zeros, indirectly", size(3, 768)},
		{"zeros in the last block", both(set(24, 0, zeros(128)), size(1, 129))},
		{"blocks in another order", both(block(2, 0, 13), block(2, 3, 10))},
		{"a direct and an indirect number the other way round", both(block(3, 0, 18), set(20, 0, word(14)))},
		{"another block", both(block(2, 1, 21), turned(11), turned(21))},
		{"the last block", both(block(2, 1, 95), turned(11), turned(95))},
		{"the first data block", both(block(2, 1, first(96)), turned(11), turned(first(96)))},
		{"another indirect block", both(block(3, 4, 95), set(95, 0, word(18)+word(19)+zeros(124)), turned(20), turned(95))},
		{"what blocks hold", both(set(10, 5, zeros(9)), set(9, 0, zeros(128)), set(24, 0, "\x00\x00"))},
		{"what free blocks hold", both(set(21, 0, zeros(128)), set(95, 3, "\x01"), set(first(96), 0, "\xff"))},
	}
	for _, w := range bad {
		img := m.image()
		w.do(img)
		if !alloc.Fit(img) || inode.Sound(img) || soundly(img) {
			t.Errorf("Sound, %s: true", w.what)
		}
	}
	for _, w := range good {
		img := m.image()
		w.do(img)
		if !inode.Sound(img) || !soundly(img) {
			t.Errorf("Sound, %s: false", w.what)
		}
	}
}

// soundly is Sound by the document's words, of an image that is fit.
func soundly(img []string) bool {
	n := len(img)
	isTaken := func(at int) bool { return img[1][at/8]>>(at%8)&1 == 1 }
	count := make([]int, n)
	for i := range inodes(n) {
		s := []byte(img[2+i/4][32*(i%4):][:32])
		if string(s) == zeros(32) {
			continue
		}
		size := int64(binary.BigEndian.Uint32(s[1:]))
		if s[0] != 1 && s[0] != 2 || size > 8704 || strings.Trim(string(s[15:]), "\x00") != "" {
			return false
		}
		var l []int
		for k := range 4 {
			l = append(l, int(binary.BigEndian.Uint16(s[5+2*k:])))
		}
		list := int(binary.BigEndian.Uint16(s[13:]))
		if list >= n || list != 0 && list < first(n) || (size > 512) != (list != 0) {
			return false
		}
		for k := range perList {
			if list == 0 {
				l = append(l, 0)
				continue
			}
			l = append(l, int(binary.BigEndian.Uint16([]byte(img[list][2*k:]))))
		}
		if list != 0 {
			count[list]++
		}
		for k, at := range l {
			left := size - 128*int64(k)
			if left <= 0 && at != 0 || left > 0 && (at < first(n) || at >= n) {
				return false
			}
			if left > 0 {
				count[at]++
				if left < 128 && strings.Trim(img[at][left:], "\x00") != "" {
					return false
				}
			}
		}
	}
	for at := first(n); at < n; at++ {
		if count[at] > 1 || (count[at] == 1) != isTaken(at) {
			return false
		}
	}
	return true
}

// P5.1: each byte of the map, of inodes, of an indirect block, of last blocks made another one, held against the document's words.
func TestSoundBytes(t *testing.T) {
	r := rand.New(rand.NewPCG(51, 51))
	m := newModel(64).scattered(r, 0, api.InDir, "").scattered(r, 1, api.InFile, bytes(1, 100)).scattered(r, 3, api.InFile, bytes(3, 512)).
		scattered(r, 6, api.InDir, bytes(6, 1000)).scattered(r, 9, api.InFile, bytes(9, 513)).scattered(r, 15, api.InFile, bytes(15, 256))
	blocks := append(upTo(1, first(64)-1), m.free()[0])
	for _, f := range m.files {
		blocks = append(blocks, f.named()...)
	}
	sound := 0
	for _, at := range blocks {
		for i := range api.BlockSize {
			for _, x := range []byte{1, 2, 3, 0x10, 0x80, 0xff, m.image()[at][i]} {
				img := m.image()
				set(at, i, string([]byte{img[at][i] ^ x}))(img)
				in := slices.Clone(img)
				want := alloc.Fit(img) && soundly(img)
				if got := inode.Sound(img); got != want {
					t.Fatalf("byte %d of block %d other by %x: %v", i, at, x, got)
				}
				if want {
					sound++
				}
				kept(t, "Sound", img, in)
				if x == 0xff && i%3 == 0 || i%32 < 16 && x == 1 && at < first(64) {
					all(img, i%17)
				}
			}
		}
	}
	if sound == 0 {
		t.Error("none is sound")
	}
}

// P5.1: images that alloc does not call fit.
func TestSoundUnfit(t *testing.T) {
	m := mixed(7)
	for at := range m.n {
		for _, s := range []string{"", m.image()[at][1:], m.image()[at] + "\x00"} {
			img := m.image()
			img[at] = s
			if inode.Sound(img) {
				t.Errorf("Sound with %d bytes in block %d: true", len(s), at)
			}
		}
	}
	for i := range api.BlockSize {
		img := m.image()
		set(0, i, string([]byte{img[0][i] ^ 1}))(img)
		if inode.Sound(img) {
			t.Errorf("Sound with byte %d of block 0 another: true", i)
		}
	}
	for at := range first(m.n) {
		img := m.image()
		turned(at)(img)
		if inode.Sound(img) {
			t.Errorf("Sound with block %d not taken: true", at)
		}
	}
	img := m.image()
	turned(m.n)(img)
	for _, img := range [][]string{img, nil, {}, {""}, m.image()[:m.n-1], append(m.image(), zeros(128)), m.image()[:1], m.image()[:2], make([]string, 16), slices.Repeat([]string{zeros(128)}, 16), newModel(16).image()[:7], make([]string, 1025)} {
		if inode.Sound(img) {
			t.Errorf("Sound of %d blocks that are no image: true", len(img))
		}
	}
}

// P5.2: of all inodes that can be, and of none.
func TestGetPlaces(t *testing.T) {
	for n := 8; n <= maxBlocks; n++ {
		img, _ := alloc.Make(n)
		for i, err := range map[int]api.Errno{-1: api.ErrPlace, 0: api.OK, 3: api.OK, inodes(n) - 1: api.OK, inodes(n): api.ErrPlace, inodes(n) + 1: api.ErrPlace, 128: api.ErrPlace} {
			if in, e := inode.Get(img, i); e != err || in != (api.Inode{}) {
				t.Errorf("Get of %d blocks, %d: %v, %v", n, i, in, e)
			}
		}
	}
}

// P5.3: kinds that may be and that may not, with a free inode and with none.
func TestNew(t *testing.T) {
	kinds := slices.Concat(far, upTo(-3, 5), []int{255, 256, 257, 258, 65537})
	for _, m := range models() {
		for _, kind := range kinds {
			making(t, m, kind)
		}
	}
	tests := []struct {
		m model
		k int
		i int
		e api.Errno
	}{
		{newModel(16), api.InFile, 0, api.OK},
		{newModel(16).with(0, api.InDir, ""), api.InDir, 1, api.OK},
		{newModel(16).with(1, api.InDir, "").with(2, api.InFile, "x", 3), api.InDir, 0, api.OK},
		{newModel(64).hogged(0), api.InFile, 15, api.OK},
		{newModel(8).with(0, api.InDir, "").with(1, api.InFile, "").with(2, api.InFile, ""), api.InFile, 3, api.OK},
		{newModel(8).with(0, api.InDir, "").with(1, api.InFile, "").with(2, api.InFile, "").with(3, api.InDir, ""), api.InFile, 0, api.ErrFull},
		{newModel(8).with(0, api.InDir, "").with(1, api.InFile, "").with(2, api.InFile, "").with(3, api.InDir, ""), api.InFree, 0, api.ErrKind},
		{newModel(16), api.InFree, 0, api.ErrKind},
		{newModel(16), api.NumIns, 0, api.ErrKind},
		{newModel(16), -1, 0, api.ErrKind},
	}
	for _, test := range tests {
		if _, i, e := inode.New(test.m.image(), test.k); i != test.i || e != test.e {
			t.Errorf("New(%d): %d, %v, not %d, %v", test.k, i, e, test.i, test.e)
		}
	}
	for _, n := range []int{8, 40, 512} { // all that there are, one after another
		m := newModel(n)
		for i := range m.files {
			m = making(t, m, api.InFile+i%2)
		}
		making(t, m, api.InFile)
		making(t, m, 7)
		m = dropping(t, m, len(m.files)/2)
		making(t, making(t, m, api.InDir), api.InDir)
	}
}

// P5.4, P5.10: of every inode, of free ones, and of none; what was taken is free again.
func TestDrop(t *testing.T) {
	for _, m := range models() {
		for i := range min(len(m.files), 12) {
			behind := dropping(t, m, i)
			if m.asked(i) != api.OK {
				continue
			}
			if n := alloc.Free(behind.image()); n != len(m.free())+len(m.files[i].named()) {
				t.Errorf("Drop: %d free", n)
			}
			dropping(t, behind, i)
		}
		for _, i := range slices.Concat(far, upTo(-5, -1), upTo(len(m.files), len(m.files)+5)) {
			dropping(t, m, i)
		}
	}
	out, e := inode.Drop(newModel(16).with(1, api.InFile, bytes(1, 600), 4, 6, 5, 3, 9, 8).image(), 1)
	if e != api.OK || out[2] != zeros(128) || out[8] != word(9)+zeros(126) || out[4] != bytes(1, 128) {
		t.Errorf("Drop: %q, %v", out, e)
	}
}

// P5.6, P5.9: from every size to every size, with blocks to spare, with just those that are wanted, and with one too few.
func TestTruncate(t *testing.T) {
	r := rand.New(rand.NewPCG(56, 56))
	for _, from := range sizes {
		base := newModel(160).with(0, api.InDir, "root", 12).scattered(r, 3, api.InFile, bytes(from, from))
		for _, to := range sizes {
			longer, e := cutting(t, base, 3, to)
			if e != api.OK {
				t.Errorf("%d to %d: %v", from, to, e)
			}
			wants := len(base.free()) - len(longer.free())
			just := base.hogged(max(wants, 0))
			if _, e := cutting(t, just, 3, to); e != api.OK || len(just.free()) != max(wants, 0) {
				t.Errorf("%d to %d, with %d free: %v", from, to, len(just.free()), e)
			}
			if wants > 0 {
				few := base.hogged(wants - 1)
				if _, e := cutting(t, few, 3, to); e != api.ErrFull || len(few.free()) != wants-1 {
					t.Errorf("%d to %d, with %d free: %v", from, to, len(few.free()), e)
				}
				cutting(t, base.hogged(0), 3, to)
			}
			if to < from { // and as long again: zeros where something was
				cutting(t, longer, 3, from)
			}
		}
	}
}

// P5.6: what is taken, in which order, and what is given back.
func TestTruncateBlocks(t *testing.T) {
	steps := []struct {
		size   int
		blocks []int
	}{
		{1, []int{4}},
		{128, []int{4}},
		{129, []int{4, 5}},
		{700, []int{4, 5, 7, 8, 9, 10, 11}}, // 3 and 6 are another one's
		{641, []int{4, 5, 7, 8, 9, 10, 11}},
		{640, []int{4, 5, 7, 8, 9, 11}},
		{513, []int{4, 5, 7, 8, 9, 11}},
		{512, []int{4, 5, 7, 8}},
		{513, []int{4, 5, 7, 8, 9, 10}},
		{1000, []int{4, 5, 7, 8, 9, 11, 12, 13, 10}},
		{129, []int{4, 5}},
		{0, nil},
		{8704, nil},
		{1100, []int{4, 5, 7, 8, 9, 10, 11, 12, 13, 14}},
		{1152, []int{4, 5, 7, 8, 9, 10, 11, 12, 13, 14}},
		{1153, []int{4, 5, 7, 8, 9, 10, 11, 12, 13, 15, 14}},
		{1281, nil},
		{1280, []int{4, 5, 7, 8, 9, 10, 11, 12, 13, 15, 14}},
		{0, nil},
	}
	m := newModel(16).with(0, api.InFile, bytes(0, 200), 6, 3).with(1, api.InFile, "")
	for i, step := range steps {
		m, _ = cutting(t, m, 1, step.size)
		if l := inode.Blocks(m.image(), 1); step.blocks != nil && !slices.Equal(l, step.blocks) {
			t.Errorf("step %d, %d bytes: %d, not %d", i, step.size, l, step.blocks)
		}
	}
	if n := alloc.Free(m.image()); n != 11 {
		t.Errorf("%d free behind", n)
	}
}

// P5.6: the errors, also where several hold at once.
func TestTruncateErrors(t *testing.T) {
	full := newModel(16).with(1, api.InFile, bytes(1, 130), 4, 3).with(2, api.InFile, bytes(2, 128*4), 5, 6, 7, 8).with(3, api.InFile, bytes(3, 128*6), upTo(9, 15)...)
	tests := []struct {
		i, size int
		e       api.Errno
	}{
		{-1, 0, api.ErrPlace}, {4, 0, api.ErrPlace}, {-1, -1, api.ErrPlace}, {4, 8705, api.ErrPlace}, {4, 300, api.ErrPlace}, {math.MinInt, math.MaxInt, api.ErrPlace}, {math.MaxInt, 1, api.ErrPlace},
		{0, 0, api.ErrNone}, {0, 1, api.ErrNone}, {0, -1, api.ErrNone}, {0, 8705, api.ErrNone}, {0, math.MinInt, api.ErrNone},
		{1, -1, api.ErrNumber}, {1, -128, api.ErrNumber}, {1, math.MinInt, api.ErrNumber}, {1, -1 << 32, api.ErrNumber},
		{1, 8705, api.ErrLong}, {1, 8704 + 128, api.ErrLong}, {1, math.MaxInt, api.ErrLong}, {1, 1 << 32, api.ErrLong}, {1, 1<<32 + 130, api.ErrLong},
		{1, 8704, api.ErrFull}, {1, 257, api.ErrFull}, {1, 512, api.ErrFull}, {1, 513, api.ErrFull}, {2, 513, api.ErrFull}, {3, 769, api.ErrFull},
		{1, 256, api.OK}, {1, 129, api.OK}, {2, 512, api.OK}, {3, 768, api.OK}, {3, 767, api.OK}, {3, 0, api.OK},
	}
	for _, test := range tests {
		if _, e := cutting(t, full, test.i, test.size); e != test.e {
			t.Errorf("Truncate(%d, %d): %v, not %v", test.i, test.size, e, test.e)
		}
	}
	for _, size := range far {
		cutting(t, full, 1, size)
		cutting(t, full, 0, size)
		cutting(t, full, size, 8705)
	}
}

// P5.7, P5.9: at every bound, up to every bound, in inodes of many sizes, also where the blocks are just there, or one too few.
func TestWrite(t *testing.T) {
	r := rand.New(rand.NewPCG(57, 57))
	for _, size := range []int{0, 1, 100, 128, 200, 512, 513, 700, 8576, 8703, 8704} {
		base := newModel(160).with(0, api.InDir, "root", 12).scattered(r, 3, api.InFile, bytes(size, size))
		for k, at := range sizes {
			for j, end := range sizes[k:] {
				data := bytes(at+end, end-at)
				behind, e := writing(t, base, 3, at, data)
				if e != api.OK {
					t.Errorf("%d bytes, at %d to %d: %v", size, at, end, e)
				}
				if wants := len(base.free()) - len(behind.free()); wants > 0 && (j+k)%3 == 0 {
					if _, e := writing(t, base.hogged(wants), 3, at, data); e != api.OK {
						t.Errorf("%d bytes, at %d to %d, with %d free: %v", size, at, end, wants, e)
					}
					if _, e := writing(t, base.hogged(wants-1), 3, at, data); e != api.ErrFull {
						t.Errorf("%d bytes, at %d to %d, with %d free: %v", size, at, end, wants-1, e)
					}
				}
			}
		}
	}
}

// P5.7: each place and each length in and around a block; nothing else is changed.
func TestWriteSmall(t *testing.T) {
	m := newModel(16).with(0, api.InFile, bytes(9, 300), 5, 9, 4).with(2, api.InDir, bytes(8, 10), 7)
	for at := range 290 {
		for _, n := range []int{0, 1, 2, 127, 128, 129, 256, 257} {
			if at%7 == 0 || n < 3 {
				writing(t, m, 0, at, strings.Repeat("\x00", n))
			}
		}
	}
	for _, at := range []int{299, 300, 301, 384, 385, 1200} {
		writing(t, m, 0, at, "")
		writing(t, m, 0, at, "a")
	}
}

// P5.7: the errors, also where several hold at once, and at and the length together too great for an int.
func TestWriteErrors(t *testing.T) {
	full := newModel(16).with(1, api.InFile, bytes(1, 130), 4, 3).with(2, api.InFile, bytes(2, 128*4), 5, 6, 7, 8).with(3, api.InFile, bytes(3, 128*6), upTo(9, 15)...)
	tests := []struct {
		i, at, n int
		e        api.Errno
	}{
		{-1, 0, 0, api.ErrPlace}, {4, 0, 1, api.ErrPlace}, {4, -1, 1, api.ErrPlace}, {4, 0, 8705, api.ErrPlace}, {-1, math.MaxInt, 9000, api.ErrPlace}, {math.MaxInt, 0, 0, api.ErrPlace},
		{0, 0, 0, api.ErrNone}, {0, 0, 1, api.ErrNone}, {0, -1, 1, api.ErrNone}, {0, 8705, 0, api.ErrNone}, {0, 0, 8705, api.ErrNone}, {0, math.MaxInt, 1, api.ErrNone},
		{1, -1, 0, api.ErrNumber}, {1, -1, 1, api.ErrNumber}, {1, -1, 8705, api.ErrNumber}, {1, -1, 8706, api.ErrNumber}, {1, -9000, 9000, api.ErrNumber}, {1, math.MinInt, 1, api.ErrNumber}, {1, math.MinInt, 9000, api.ErrNumber},
		{1, 8705, 0, api.ErrLong}, {1, 8704, 1, api.ErrLong}, {1, 0, 8705, api.ErrLong}, {1, 1, 8704, api.ErrLong}, {1, 0, 100000, api.ErrLong}, {1, 4352, 4353, api.ErrLong},
		{1, math.MaxInt, 0, api.ErrLong}, {1, math.MaxInt, 1, api.ErrLong}, {1, math.MaxInt, 8704, api.ErrLong}, {1, math.MaxInt - 3, 200, api.ErrLong}, {1, math.MaxInt, 20000, api.ErrLong}, {1, 1 << 32, 1, api.ErrLong}, {1, 1<<32 - 1, 3, api.ErrLong},
		{1, 0, 8704, api.ErrFull}, {1, 8704, 0, api.ErrFull}, {1, 8703, 1, api.ErrFull}, {1, 256, 1, api.ErrFull}, {1, 257, 0, api.ErrFull}, {1, 0, 257, api.ErrFull}, {2, 512, 1, api.ErrFull}, {2, 0, 513, api.ErrFull}, {3, 768, 1, api.ErrFull},
		{1, 256, 0, api.OK}, {1, 0, 256, api.OK}, {1, 255, 1, api.OK}, {2, 0, 512, api.OK}, {3, 767, 1, api.OK}, {3, 0, 768, api.OK}, {3, 100, 0, api.OK},
	}
	for _, test := range tests {
		if _, e := writing(t, full, test.i, test.at, bytes(1, test.n)); e != test.e {
			t.Errorf("Write(%d, %d, %d bytes): %v, not %v", test.i, test.at, test.n, e, test.e)
		}
	}
	for _, at := range far {
		for _, n := range []int{0, 1, 8704, 8705} {
			writing(t, full, 1, at, bytes(2, n))
			writing(t, full, 0, at, bytes(2, n))
			writing(t, full, at, at, bytes(2, n))
		}
	}
}

// P5.9, P5.10: long rows of calls on one image.
func TestRows(t *testing.T) {
	for seed := range uint64(10) {
		r := rand.New(rand.NewPCG(59, seed))
		m := newModel([]int{8, 16, 24, 40, 64, 100, 160, 256, 400, 512}[seed])
		for range 250 {
			i := r.IntN(len(m.files)+2) - 1
			switch r.IntN(8) {
			case 0, 1:
				m = making(t, m, 1+r.IntN(2))
			case 2:
				m = dropping(t, m, i)
			case 3, 4:
				m, _ = cutting(t, m, i, anySize(r))
			default:
				at := anySize(r)
				m, _ = writing(t, m, i, at, bytes(r.IntN(1000), r.IntN(max(anySize(r)-at, 1)+1)))
			}
		}
		telling(t, m)
	}
}

// anySize is a size, mostly a small one, often at a bound.
func anySize(r *rand.Rand) int {
	switch r.IntN(4) {
	case 0:
		return r.IntN(api.MaxFile + 2)
	case 1:
		return sizes[r.IntN(len(sizes))]
	}
	return r.IntN(900)
}

// P5.10: what was taken and is given back leaves the map as it was.
func TestGivesBack(t *testing.T) {
	m := mixed(3)
	for _, size := range sizes {
		one, i, _ := m.new(api.InFile)
		img, e := inode.Truncate(one.image(), i, size)
		if e != api.OK {
			t.Fatal(e)
		}
		cut, e := inode.Truncate(img, i, 0)
		if e != api.OK || cut[1] != m.image()[1] {
			t.Errorf("Truncate to %d and back: another map, %v", size, e)
		}
		gone, e := inode.Drop(img, i)
		if e != api.OK || gone[1] != m.image()[1] {
			t.Errorf("Truncate to %d and Drop: another map, %v", size, e)
		}
		behind, e := inode.Drop(cut, i)
		if e != api.OK || behind[1] != m.image()[1] {
			t.Errorf("Truncate to %d, back, and Drop: another map, %v", size, e)
		}
	}
}

// 0.1: images that are none, or are not sound.
func TestUnsound(t *testing.T) {
	blocks := []string{"", "a", zeros(128), zeros(127), zeros(129), strings.Repeat("\xff", 128), strings.Repeat("\x01", 128), "\x01\x00\x00\x02\x80" + zeros(123), "\x02\xff\xff\xff\xff" + strings.Repeat("\x00\x09", 5) + zeros(113)}
	for _, n := range []int{0, 1, 2, 3, 4, 7, 8, 16, 64, 512, 513, 1030} {
		for _, head := range blocks[:4] {
			for _, bits := range blocks[:6] {
				for _, rest := range blocks {
					img := slices.Repeat([]string{rest}, n)
					copy(img, []string{head, bits})
					all(img, 0)
				}
			}
		}
	}
	all(nil, 0)
	r := rand.New(rand.NewPCG(1, 1))
	for range 300 {
		img := mixed(r.Uint64()).image()
		for range 1 + r.IntN(5) {
			set(r.IntN(first(256)), r.IntN(120), word(r.IntN(1<<16))+word(r.IntN(300)))(img)
		}
		all(img, r.IntN(64))
	}
}

// all does every call on an image.
func all(img []string, i int) {
	inode.Sound(img)
	inode.New(img, api.InFile)
	for _, i := range []int{i, -1, 0, 3, 4, math.MaxInt, math.MinInt} {
		inode.Get(img, i)
		inode.Read(img, i)
		inode.Blocks(img, i)
		inode.Drop(img, i)
		for _, n := range []int{-1, 0, 1, 128, 513, 640, 8703, 8704, 8705, math.MaxInt} {
			inode.Truncate(img, i, n)
			inode.Write(img, i, n, "a")
		}
		inode.Write(img, i, 1, bytes(1, 8703))
	}
}

// The chapter's example.
func TestExample(t *testing.T) {
	img, _ := alloc.Make(16)
	img, i, e := inode.New(img, api.InFile)
	if i != 0 || e != api.OK {
		t.Errorf("New: %d, %v", i, e)
	}
	img, e = inode.Write(img, 0, 130, "x")
	if in, _ := inode.Get(img, 0); e != api.OK || in.Size != 131 || !slices.Equal(inode.Blocks(img, 0), []int{3, 4}) {
		t.Errorf("Write: %v, %d, %v", in, inode.Blocks(img, 0), e)
	}
	if s, e := inode.Read(img, 0); s != zeros(130)+"x" || e != api.OK {
		t.Errorf("Read: %q, %v", s, e)
	}
	img, e = inode.Truncate(img, 0, 0)
	if e != api.OK || alloc.Free(img) != 13 {
		t.Errorf("Truncate: %d free, %v", alloc.Free(img), e)
	}
}
