package tree_test

import (
	"cmp"
	"fmt"
	"maps"
	"math/rand/v2"
	"regexp"
	"slices"
	"strings"
	"testing"

	"almanac/alloc"
	"almanac/api"
	"almanac/dir"
	"almanac/inode"
	"almanac/tree"
)

// model is an image as it is meant: its bytes, as packages dir and inode lay them step by step, and what stands at each path but the root.
type model struct {
	img []string
	has map[string]api.File
}

func newModel(n int) model {
	img, e := dir.Make(n)
	if e != api.OK {
		panic(e)
	}
	return model{img, map[string]api.File{}}
}

func (m model) clone() model { return model{slices.Clone(m.img), maps.Clone(m.has)} }

// paths is all paths but the root, rising.
func (m model) paths() []string { return slices.Sorted(maps.Keys(m.has)) }

// list is what Walk tells.
func (m model) list() []api.File {
	var l []api.File
	for _, path := range m.paths() {
		l = append(l, m.has[path])
	}
	return l
}

// up is a path without its last name; "" of one name.
func up(path string) string { return path[:strings.LastIndex(path, "/")] }

var isPath = regexp.MustCompile(`^/$|^(/[\x21-\x2e\x30-\x7e]{1,24})+$`)

// parts is dir.Parts' error.
func parts(path string) api.Errno {
	switch {
	case !isPath.MatchString(path), strings.Contains(path+"/", "/./"), strings.Contains(path+"/", "/../"):
		return api.ErrName
	case strings.Count(path, "/") > 8:
		return api.ErrDeep
	}
	return api.OK
}

// ways is a path's beginnings of one name and more, itself the last.
func ways(path string) []string {
	var l []string
	for k := 1; k < len(path); k++ {
		if path[k] == '/' {
			l = append(l, path[:k])
		}
	}
	return append(l, path)
}

// find is dir.Find's error.
func (m model) find(path string) api.Errno {
	if e := parts(path); e != api.OK || path == "/" {
		return e
	}
	for _, at := range ways(path) {
		if f, ok := m.has[up(at)]; ok && !f.Dir {
			return api.ErrKind
		}
		if _, ok := m.has[at]; !ok {
			return api.ErrNone
		}
	}
	return api.OK
}

// read is what Read tells.
func (m model) read(path string) (string, api.Errno) {
	if e := m.find(path); e != api.OK {
		return "", e
	}
	if path == "/" || m.has[path].Dir {
		return "", api.ErrKind
	}
	return m.has[path].Data, api.OK
}

// add is the model with a directory or a file of no bytes.
func (m model) add(path string, isDir bool) (model, api.Errno) {
	kind, to, e := api.InFile, m.clone(), api.OK
	if isDir {
		kind = api.InDir
	}
	if to.img, _, e = dir.Add(m.img, path, kind); e != api.OK {
		return m, e
	}
	to.has[path] = api.File{Path: path, Dir: isDir}
	return to, api.OK
}

// remove is the model without a path that has nothing below.
func (m model) remove(path string) model {
	to, e := m.clone(), api.OK
	if to.img, e = dir.Remove(m.img, path); e != api.OK {
		panic(path + ": " + e.Error())
	}
	delete(to.has, path)
	return to
}

func (m model) put(path, data string) (model, api.Errno) {
	e := parts(path)
	switch {
	case e != api.OK:
		return m, e
	case path == "/":
		return m, api.ErrKind
	case len(data) > 8704:
		return m, api.ErrLong
	}
	to := m
	for _, at := range ways(path) {
		f, ok := to.has[at]
		if ok && f.Dir != (at != path) {
			return m, api.ErrKind
		}
		if !ok {
			if to, e = to.add(at, at != path); e != api.OK {
				return m, e
			}
		}
	}
	to = to.clone()
	i, _ := dir.Find(to.img, path)
	if to.img, e = inode.Truncate(to.img, i, len(data)); e != api.OK {
		return m, e
	}
	if to.img, e = inode.Write(to.img, i, 0, data); e != api.OK {
		return m, e
	}
	to.has[path] = api.File{Path: path, Data: data}
	return to, api.OK
}

// going is what is at and below a path ("" is the root, which stays), in the order in which it goes.
func (m model) going(path string) []string {
	var names, l []string
	for at := range m.has {
		if up(at) == path {
			names = append(names, at[len(path)+1:])
		}
	}
	slices.Sort(names)
	for _, name := range names {
		l = append(l, m.going(path+"/"+name)...)
	}
	if path != "" {
		l = append(l, path)
	}
	return l
}

func (m model) cut(path string) (model, api.Errno) {
	if e := m.find(path); e != api.OK {
		return m, e
	}
	for _, at := range m.going(strings.TrimSuffix(path, "/")) {
		m = m.remove(at)
	}
	return m, api.OK
}

// isFit is the same as Fit.
func isFit(l []api.File) bool {
	dirs := map[string]bool{"": true}
	was := ""
	for _, f := range l {
		if parts(f.Path) != api.OK || f.Path == "/" || f.Path <= was || !dirs[up(f.Path)] || f.Dir && f.Data != "" || len(f.Data) > 8704 {
			return false
		}
		was, dirs[f.Path] = f.Path, f.Dir
	}
	return true
}

func (m model) load(l []api.File) (model, api.Errno) {
	if !isFit(l) {
		return m, api.ErrState
	}
	to := m
	for _, path := range slices.Backward(m.paths()) {
		stays := func(f api.File) bool { return f.Path == path && f.Dir == m.has[path].Dir }
		if !slices.ContainsFunc(l, stays) {
			to = to.remove(path)
		}
	}
	for _, f := range l {
		was, ok := to.has[f.Path]
		e := api.OK
		switch {
		case f.Dir && !ok:
			to, e = to.add(f.Path, true)
		case !f.Dir && was != f:
			to, e = to.put(f.Path, f.Data)
		}
		if e != api.OK {
			return m, e
		}
	}
	return to, api.OK
}

// with is the model with all of these, those that end in / directories, the others files of no bytes.
func (m model) with(paths ...string) model {
	for _, path := range paths {
		to, e := m.add(strings.TrimSuffix(path, "/"), strings.HasSuffix(path, "/"))
		if e != api.OK {
			panic(path + ": " + e.Error())
		}
		m = to
	}
	return m
}

// holding is the model with bytes in a file.
func (m model) holding(path, data string) model {
	to, e := m.put(path, data)
	if e != api.OK {
		panic(path + ": " + e.Error())
	}
	return to
}

// spares is the model with files to cram it by.
func (m model) spares() model {
	return m.with("/spare/", "/spare/1", "/spare/2", "/spare/3", "/spare/4", "/spare/5")
}

// crammed is the model with all blocks but so many taken by its spares that hold nothing.
func (m model) crammed(left int) model {
	const most = 69 // blocks of a file, with the indirect one
	for _, path := range m.paths() {
		n := min(alloc.Free(m.img)-left, most)
		if !strings.HasPrefix(path, "/spare/") || m.has[path].Data != "" || n <= 0 {
			continue
		}
		if n > api.Direct { // the indirect one; of five blocks it is four data blocks, and the next file has the fifth
			n--
		}
		m = m.holding(path, strings.Repeat("~", n*api.BlockSize))
	}
	if n := alloc.Free(m.img); n != left {
		panic(fmt.Sprint(n, " blocks free, not ", left))
	}
	return m
}

// inodes is how many inodes are free.
func (m model) inodes() int { return alloc.Inodes(m.img) - 1 - len(m.has) }

// crowded is the model with all inodes but so many taken by files of no bytes.
func (m model) crowded(left int) model {
	for k := 0; m.inodes() > left; k++ {
		m = m.with(fmt.Sprintf("/spare/i%03d", k))
	}
	return m
}

// stuffed is the model with files in a directory till that has so many bytes.
func (m model) stuffed(path string, size int) model {
	const most = api.MaxName + 3
	left := size
	for at := range m.has {
		if up(at) == path {
			left -= len(at) - len(path) - 1 + 3
		}
	}
	for k := 0; left > 0; k++ {
		n := min(left, most)
		if rest := left - n; rest > 0 && rest < 8 {
			n -= 8
		}
		m = m.with(path + "/" + fmt.Sprintf("%0*d", api.MaxName, k)[api.MaxName+3-n:])
		left -= n
	}
	return m
}

// roomy is a list with room behind it, so that who appends to it shares it.
func roomy[T any](l []T) []T { return append(make([]T, 0, len(l)+8), l...) }

// kept asks that a list is as it was, the room behind it too.
func kept[T comparable](t *testing.T, what string, l, was []T) {
	t.Helper()
	var zero T
	for i, v := range l[:cap(l)] {
		if i < len(was) && v != was[i] || i >= len(was) && v != zero {
			t.Fatalf("%s: what was handed in is changed at %d", what, i)
		}
	}
}

// spoil changes all of a list that was told, the room behind it too.
func spoil[T any](l []T, with T) {
	for i := range l[:cap(l)] {
		l[:cap(l)][i] = with
	}
}

// behind asks for all that is promised of an image that a call tells.
func behind(t *testing.T, what string, in, out []string, was, want model, e, err api.Errno) {
	t.Helper()
	if e != err {
		t.Fatalf("%s: %v, not %v", what, e, err)
	}
	if e != api.OK && !slices.Equal(out, was.img) {
		t.Fatalf("%s: %v, and the image is not as it was", what, e)
	}
	if !slices.Equal(out, want.img) {
		t.Fatalf("%s: another image: %q, not %q", what, out, want.img)
	}
	if !dir.Sound(out) {
		t.Fatalf("%s: not sound behind", what)
	}
	if l := tree.Walk(out); !slices.Equal(l, want.list()) {
		t.Fatalf("%s: Walk behind: %.40v", what, l)
	}
	kept(t, what, in, was.img)
	spoil(out, "spoilt")
	kept(t, what+", what is told being changed", in, was.img)
}

// putting does Put on a model's image, and asks for all that is promised of it.
func putting(t *testing.T, m model, path, data string) (model, api.Errno) {
	t.Helper()
	in := roomy(m.img)
	out, e := tree.Put(in, path, data)
	want, err := m.put(path, data)
	behind(t, fmt.Sprintf("Put(%.60q, %d bytes)", path, len(data)), in, out, m, want, e, err)
	return want, e
}

// cutting does Cut likewise.
func cutting(t *testing.T, m model, path string) (model, api.Errno) {
	t.Helper()
	in := roomy(m.img)
	out, e := tree.Cut(in, path)
	want, err := m.cut(path)
	behind(t, fmt.Sprintf("Cut(%.60q)", path), in, out, m, want, e, err)
	return want, e
}

// loading does Load likewise.
func loading(t *testing.T, m model, l []api.File) (model, api.Errno) {
	t.Helper()
	in, files := roomy(m.img), roomy(l)
	out, e := tree.Load(in, files)
	want, err := m.load(l)
	what := fmt.Sprintf("Load(%.40v)", l)
	behind(t, what, in, out, m, want, e, err)
	kept(t, what, files, l)
	if e == api.OK && !slices.Equal(want.list(), l) {
		t.Fatalf("%s: the model has %.40v", what, want.list())
	}
	return want, e
}

// telling asks for all that Read and Walk tell of an image, of paths too that are not there, or are none; and that Load of Walk changes nothing.
func telling(t *testing.T, m model) {
	t.Helper()
	in := roomy(m.img)
	paths := []string{"", "/", "//", "/.", "a", "/ ", strings.Repeat("/a", 8), strings.Repeat("/a", 9)}
	for path := range m.has {
		paths = append(paths, path, path+"/", path+"/\x7f", path+"/zz", path+"/zz/y", path+"z", path[:len(path)-1])
	}
	for _, path := range paths {
		s, err := m.read(path)
		if got, e := tree.Read(in, path); got != s || e != err {
			t.Fatalf("Read(%q): %q, %v, not %q, %v", path, got, e, s, err)
		}
	}
	for range 2 { // again, what was told being changed
		l := tree.Walk(in)
		if !slices.Equal(l, m.list()) || !tree.Fit(l) || !tree.Same(l, m.list()) {
			t.Fatalf("Walk: %.40v, not %.40v", l, m.list())
		}
		spoil(l, api.File{Path: "spoilt", Dir: true, Data: "spoilt"})
	}
	out, e := tree.Load(in, tree.Walk(in))
	if e != api.OK || !slices.Equal(out, m.img) || !dir.Sound(out) {
		t.Fatalf("Load of Walk: %v", e)
	}
	kept(t, "telling", in, m.img)
}

// rising is n names, each below the one ahead.
func rising(n int) string { return "/1/2/3/4/5/6/7/8/9"[:2*n] }

// stock is an image with files and directories of all kinds, names that rise otherwise than paths do, and free inodes among them.
func stock() model {
	m := newModel(160).with("/gone")
	for k := 1; k <= 8; k++ {
		m = m.with(rising(k) + "/")
	}
	m = m.with("/a/", "/a/b", "/a/c/", "/a/c/d", "/e/", "/f", "/hole", "/ab", "/a!", "/a./", "/a./a", "/~/", "/a/c/e/", "/a/c/e/x", "/a/c-/", "/a/c-/d")
	m = m.holding("/f", strings.Repeat("f", 700)).holding("/a/b", "\x01a\x00\x05").holding("/a/c/e/x", "\x01b\x00\x03").holding("/a./a", strings.Repeat("\x00", 128))
	return m.remove("/gone").remove("/hole").with("/1/2/z", "/1/2/3/4/5/6/7/z")
}

// P7.1: the errors, also where several hold at once, and what files hold.
func TestRead(t *testing.T) {
	m := stock()
	telling(t, m)
	telling(t, newModel(8))
	tests := []struct {
		path, data string
		e          api.Errno
	}{
		{"", "", api.ErrName}, {"f", "", api.ErrName}, {"/f/", "", api.ErrName}, {"//f", "", api.ErrName}, {"/a/./b", "", api.ErrName}, {"/a/../f", "", api.ErrName}, {"/x//", "", api.ErrName}, {"/f/x/", "", api.ErrName}, {rising(9) + "/", "", api.ErrName}, {"/" + strings.Repeat("n", 25), "", api.ErrName},
		{rising(9), "", api.ErrDeep}, {"/f/2/3/4/5/6/7/8/9", "", api.ErrDeep}, {"/x/2/3/4/5/6/7/8/9", "", api.ErrDeep},
		{"/f/x", "", api.ErrKind}, {"/f/x/y", "", api.ErrKind}, {"/a/b/a", "", api.ErrKind}, {"/a/c/e/x/b", "", api.ErrKind},
		{"/x", "", api.ErrNone}, {"/x/f", "", api.ErrNone}, {"/gone", "", api.ErrNone}, {"/a/x", "", api.ErrNone}, {"/F", "", api.ErrNone}, {"/e/x", "", api.ErrNone}, {"/1/2/3/4/5/6/7/y", "", api.ErrNone},
		{"/", "", api.ErrKind}, {"/a", "", api.ErrKind}, {"/e", "", api.ErrKind}, {rising(8), "", api.ErrKind}, {"/a/c/e", "", api.ErrKind},
		{"/ab", "", api.OK}, {"/a!", "", api.OK}, {"/1/2/3/4/5/6/7/z", "", api.OK}, {"/a/c/d", "", api.OK},
		{"/a/b", "\x01a\x00\x05", api.OK}, {"/f", strings.Repeat("f", 700), api.OK}, {"/a./a", strings.Repeat("\x00", 128), api.OK},
	}
	for _, test := range tests {
		if s, e := tree.Read(m.img, test.path); s != test.data || e != test.e {
			t.Errorf("Read(%q): %q, %v, not %q, %v", test.path, s, e, test.data, test.e)
		}
	}
}

// P7.2: the errors, also where several hold at once.
func TestPutErrors(t *testing.T) {
	m := stock()
	full := newModel(64).with("/d/", "/d/e/", "/f").spares().stuffed("", 128).holding("/f", "text").crowded(0).crammed(0)
	some, most, more := "some", strings.Repeat("m", 8704), strings.Repeat("m", 8705)
	tests := []struct {
		m          model
		path, data string
		e          api.Errno
	}{
		{m, "", some, api.ErrName}, {m, "x", some, api.ErrName}, {m, "/x/", some, api.ErrName}, {m, "//", some, api.ErrName}, {m, "/f//x", some, api.ErrName}, {m, "/x/../y", some, api.ErrName}, {m, "/1/./x", some, api.ErrName}, {m, "/x y", some, api.ErrName}, {m, "/" + strings.Repeat("n", 25), some, api.ErrName}, {m, rising(9) + "/", some, api.ErrName},
		{m, "", more, api.ErrName}, {m, "/x/", more, api.ErrName}, {full, "/x/", more, api.ErrName}, {full, "/f//x", "", api.ErrName},
		{m, rising(9), some, api.ErrDeep}, {m, "/x/2/3/4/5/6/7/8/9", more, api.ErrDeep}, {m, "/f/2/3/4/5/6/7/8/9", "", api.ErrDeep}, {full, "/x/2/3/4/5/6/7/8/9", more, api.ErrDeep},
		{m, "/", "", api.ErrKind}, {m, "/", some, api.ErrKind}, {m, "/", more, api.ErrKind}, {full, "/", more, api.ErrKind},
		{m, "/x", more, api.ErrLong}, {m, "/f", more, api.ErrLong}, {m, "/f/x", more, api.ErrLong}, {m, "/f/x/y", more, api.ErrLong}, {m, "/a", more, api.ErrLong}, {m, "/x/y/z", more, api.ErrLong}, {m, "/a/c", more + more, api.ErrLong}, {full, "/x", more, api.ErrLong}, {full, "/f/x", more, api.ErrLong}, {full, "/d", more, api.ErrLong}, {full, "/d/x/y", more, api.ErrLong},
		{m, "/f/x", some, api.ErrKind}, {m, "/f/x/y/z", some, api.ErrKind}, {m, "/a/b/a", "", api.ErrKind}, {m, "/a/b/a/c", "", api.ErrKind}, {m, "/a/c/e/x/b", most, api.ErrKind}, {full, "/f/x", some, api.ErrKind}, {full, "/f/x/y", most, api.ErrKind},
		{m, "/a", some, api.ErrKind}, {m, "/a", "", api.ErrKind}, {m, "/e", some, api.ErrKind}, {m, "/a/c/e", most, api.ErrKind}, {m, rising(8), "", api.ErrKind}, {full, "/d", some, api.ErrKind}, {full, "/d/e", most, api.ErrKind},
		{full, "/x", "", api.ErrFull}, {full, "/x", some, api.ErrFull}, {full, "/d/x", "", api.ErrFull}, {full, "/x/y", "", api.ErrFull}, {full, "/d/e/x/y", most, api.ErrFull}, {full, "/f", most, api.ErrFull}, {full, "/f", strings.Repeat("f", 129), api.ErrFull},
		{full, "/f", "", api.OK}, {full, "/f", some, api.OK}, {full, "/f", strings.Repeat("f", 128), api.OK},
		{m, "/x", "", api.OK}, {m, "/x", some, api.OK}, {m, "/gone", most, api.OK}, {m, "/f", some, api.OK}, {m, "/f", most, api.OK}, {m, "/x/y/z", some, api.OK}, {m, "/a/c/e/y", some, api.OK}, {m, "/e/1/2/3/4/5/6/7", some, api.OK}, {m, "/8/7/6/5/4/3/2/1", "", api.OK}, {m, "/1/2/3/4/5/6/7/9", some, api.OK}, {m, "/a!b/c", some, api.OK}, {m, "/" + strings.Repeat("n", 24), some, api.OK},
	}
	for _, test := range tests {
		to, e := putting(t, test.m, test.path, test.data)
		if e != test.e {
			t.Errorf("Put(%.60q, %d bytes): %v, not %v", test.path, len(test.data), e, test.e)
		}
		if e == api.OK {
			telling(t, to)
		}
	}
	for k := 1; k <= 10; k++ { // as deep as can be, and deeper
		path := strings.Repeat("/q", k)
		if _, e := putting(t, m, path, more); e == api.OK || (e == api.ErrDeep) != (k > 8) {
			t.Errorf("Put(%q) of too much: %v", path, e)
		}
		if _, e := putting(t, m, path, some); (e == api.OK) != (k <= 8) {
			t.Errorf("Put(%q): %v", path, e)
		}
	}
}

// P7.2: where blocks run out, at each step in turn: what is needed is told by hand.
func TestPutFull(t *testing.T) {
	base := newModel(200).with("/d/", "/f").holding("/f", strings.Repeat("f", 100)).spares()
	wide := base.stuffed("", 128) // the next entry of the root needs a block
	wider := base.with("/w/").stuffed("/w", 510)
	tests := []struct {
		m              model
		path           string
		size           int
		blocks, inodes int
	}{
		{base, "/x", 0, 0, 1}, {base, "/x", 1, 1, 1}, {base, "/x", 128, 1, 1}, {base, "/x", 129, 2, 1}, {base, "/x", 512, 4, 1}, {base, "/x", 513, 6, 1}, {base, "/x", 8704, 69, 1},
		{base, "/d/x", 0, 1, 1}, {base, "/d/x", 129, 3, 1}, {base, "/x/y", 0, 1, 2}, {base, "/x/y", 1, 2, 2}, {base, "/d/x/y", 0, 2, 2}, {base, "/d/x/y/z", 200, 5, 3}, {base, "/n/m/f", 600, 8, 3}, {base, "/8/7/6/5/4/3/2/1", 300, 10, 8}, {base, "/d/7/6/5/4/3/2/1", 0, 7, 7},
		{base, "/f", 0, -1, 0}, {base, "/f", 128, 0, 0}, {base, "/f", 129, 1, 0}, {base, "/f", 512, 3, 0}, {base, "/f", 513, 5, 0}, {base, "/f", 8704, 68, 0},
		{wide, "/x", 0, 1, 1}, {wide, "/x", 1, 2, 1}, {wide, "/x/y", 130, 4, 2}, {wide, "/d/x", 1, 2, 1}, {wide, "/x/y/z/a", 600, 10, 4},
		{wider, "/w/x", 0, 2, 1}, {wider, "/w/x/y", 1, 4, 2}, {wider, "/w/x/y/z", 600, 10, 3}, // the directory's indirect block, too
	}
	for _, test := range tests {
		data := strings.Repeat("d", test.size)
		to, e := putting(t, test.m, test.path, data)
		if n := alloc.Free(test.m.img) - alloc.Free(to.img); e != api.OK || n != test.blocks || len(to.has)-len(test.m.has) != test.inodes {
			t.Errorf("Put(%q, %d bytes): %v, %d blocks", test.path, test.size, e, n)
		}
		for left := range test.blocks + 2 {
			if test.blocks > 12 && left > 3 && left < test.blocks-3 {
				continue
			}
			if _, e := putting(t, test.m.crammed(left), test.path, data); (e == api.ErrFull) != (left < test.blocks) || e != api.OK && e != api.ErrFull {
				t.Errorf("Put(%q, %d bytes) with %d blocks free: %v", test.path, test.size, left, e)
			}
		}
	}
}

// P7.2: where inodes run out, at each step in turn, with blocks enough and with too few.
func TestPutCrowded(t *testing.T) {
	base := newModel(100).with("/d/", "/f").spares()
	for path, need := range map[string]int{"/f": 0, "/x": 1, "/d/x": 1, "/x/y": 2, "/d/x/y": 2, "/x/y/z": 3, "/d/1/2/3/4": 4, "/1/2/3/4/5/6/7/8": 8} {
		for left := range need + 2 {
			m := base.crowded(left)
			if _, e := putting(t, m, path, "data"); (e == api.ErrFull) != (left < need) || e != api.OK && e != api.ErrFull {
				t.Errorf("Put(%q) with %d inodes free: %v", path, left, e)
			}
			if _, e := putting(t, m.crammed(0), path, "data"); e != api.ErrFull {
				t.Errorf("Put(%q) with %d inodes and no block free: %v", path, left, e)
			}
		}
	}
}

// P7.2, P7.7: over files of all lengths.
func TestPutOver(t *testing.T) {
	sizes := []int{0, 1, 127, 128, 129, 256, 300, 511, 512, 513, 640, 641, 1000, 4224, 8576, 8577, 8703, 8704}
	base := newModel(240).with("/a/", "/a/f", "/a/g").spares().holding("/a/g", strings.Repeat("g", 600))
	for _, was := range sizes {
		m := base.holding("/a/f", strings.Repeat("w", was))
		cramped := m.crammed(0)
		for _, size := range append(sizes, 8705, 10000) {
			data := strings.Repeat("new", size/3+1)[:size]
			to, e := putting(t, m, "/a/f", data)
			if (e == api.OK) != (size <= 8704) || e != api.OK && e != api.ErrLong {
				t.Errorf("Put of %d bytes over %d: %v", size, was, e)
			}
			if e == api.OK {
				telling(t, to)
			}
			err := api.OK
			switch blocks := func(n int) int { return (n + 127) / 128 }; {
			case size > 8704:
				err = api.ErrLong
			case blocks(size) > blocks(was):
				err = api.ErrFull
			}
			if _, e := putting(t, cramped, "/a/f", data); e != err {
				t.Errorf("Put of %d bytes over %d with no block free: %v, not %v", size, was, e, err)
			}
		}
	}
}

// P7.2, P7.7: bytes of all values, and names of all bytes and lengths.
func TestPutBytes(t *testing.T) {
	m := stock()
	var all []byte
	for b := range 256 {
		all = append(all, byte(b))
		putting(t, m, "/e/"+string(all[b:]), "file")
		putting(t, m, "/e"+string(all[b:])+"/x", "file")
	}
	to, e := putting(t, m, "/bytes", strings.Repeat(string(all), 34))
	if e != api.OK {
		t.Errorf("Put of all bytes: %v", e)
	}
	telling(t, to)
	for n := range 27 {
		name := "/" + strings.Repeat("n", n)
		for _, path := range []string{name, "/a" + name, name + name} {
			if _, e := putting(t, m, path, "n"); (e == api.OK) != (n >= 1 && n <= 24) {
				t.Errorf("Put(%q): %v", path, e)
			}
		}
	}
}

// P7.3: the errors, also where several hold at once, and all that there is.
func TestCut(t *testing.T) {
	m := stock()
	tests := []struct {
		path string
		e    api.Errno
		gone int
	}{
		{"", api.ErrName, 0}, {"a", api.ErrName, 0}, {"/a/", api.ErrName, 0}, {"//", api.ErrName, 0}, {"/f/x/", api.ErrName, 0}, {"/x/..", api.ErrName, 0}, {rising(9) + "/", api.ErrName, 0},
		{rising(9), api.ErrDeep, 0}, {"/f/2/3/4/5/6/7/8/9", api.ErrDeep, 0}, {"/x/2/3/4/5/6/7/8/9", api.ErrDeep, 0},
		{"/f/x", api.ErrKind, 0}, {"/a/b/a", api.ErrKind, 0}, {"/f/x/y", api.ErrKind, 0},
		{"/x", api.ErrNone, 0}, {"/gone", api.ErrNone, 0}, {"/x/y", api.ErrNone, 0}, {"/a/x", api.ErrNone, 0}, {"/A", api.ErrNone, 0},
		{"/f", api.OK, 1}, {"/ab", api.OK, 1}, {"/a!", api.OK, 1}, {"/a/b", api.OK, 1}, {"/a/c/d", api.OK, 1}, {"/1/2/3/4/5/6/7/z", api.OK, 1},
		{"/e", api.OK, 1}, {"/~", api.OK, 1}, {rising(8), api.OK, 1},
		{"/a.", api.OK, 2}, {"/a/c-", api.OK, 2}, {"/a/c/e", api.OK, 2}, {"/a/c", api.OK, 4}, {"/a", api.OK, 8}, {rising(7), api.OK, 3}, {rising(2), api.OK, 9}, {rising(1), api.OK, 10}, {"/", api.OK, len(m.has)},
	}
	for _, test := range tests {
		to, e := cutting(t, m, test.path)
		if e != test.e || len(m.has)-len(to.has) != test.gone {
			t.Errorf("Cut(%q): %v, not %v", test.path, e, test.e)
		}
		if e != api.OK {
			continue
		}
		telling(t, to)
		if _, e := cutting(t, to, test.path); (e == api.ErrNone) != (test.path != "/") || e != api.OK && e != api.ErrNone {
			t.Errorf("Cut(%q) again: %v", test.path, e)
		}
	}
	if to, e := cutting(t, newModel(8), "/"); e != api.OK || !slices.Equal(to.img, newModel(8).img) {
		t.Errorf("Cut of an empty root: %v", e)
	}
}

// P7.3: all of images of all sizes, and of directories of many blocks: what was taken is free again.
func TestCutAll(t *testing.T) {
	r := rand.New(rand.NewPCG(7, 3))
	for _, n := range []int{8, 9, 16, 40, 100, 256, 512} {
		m := newModel(n)
		for range 100 {
			m, _ = m.put(anyPath(r, m), strings.Repeat("c", r.IntN(40)*r.IntN(40)))
		}
		to, e := cutting(t, m, "/")
		if e != api.OK || len(to.has) != 0 || alloc.Free(to.img) != alloc.Free(newModel(n).img) {
			t.Errorf("Cut(/) of %d blocks: %v, %d free", n, e, alloc.Free(to.img))
		}
	}
	for _, size := range []int{128, 129, 512, 513, 700, 1000} {
		m := newModel(240).with("/d/").stuffed("/d", size).with("/z")
		to, e := cutting(t, m, "/d")
		if want := newModel(240).with("/z"); e != api.OK || !maps.Equal(to.has, want.has) || alloc.Free(to.img) != alloc.Free(want.img) {
			t.Errorf("Cut(/d) of %d bytes: %v", size, e)
		}
	}
}

// P7.4: names that rise as entries, but not as whole paths: each byte behind a directory's name.
func TestWalkOrder(t *testing.T) {
	for b := byte('!'); b <= '~'; b++ {
		if b == '/' {
			continue
		}
		near := "/a" + string([]byte{b})
		m := newModel(64).with("/a/", "/a/b", "/a/b!/", "/a/b!/c", "/a/"+string([]byte{b, b, b}), near+"/", near+"/b", "/0")
		telling(t, m)
		if to, e := cutting(t, m, "/a"); e != api.OK || len(to.has) != 3 {
			t.Errorf("Cut(/a) beside %q: %v", near, e)
		}
	}
	m := newModel(100).with("/d/", "/d/d/", "/d/d/d", "/d/d.", "/d/d0", "/d/d-/", "/d/d-/d/", "/d.", "/d0/", "/d0/d", "/d-/", "/d-/!", "/d!", "/d/!").holding("/d.", "dot").holding("/d/d0", "null")
	want := []api.File{{Path: "/d", Dir: true}, {Path: "/d!"}, {Path: "/d-", Dir: true}, {Path: "/d-/!"}, {Path: "/d.", Data: "dot"}, {Path: "/d/!"}, {Path: "/d/d", Dir: true}, {Path: "/d/d-", Dir: true}, {Path: "/d/d-/d", Dir: true}, {Path: "/d/d."}, {Path: "/d/d/d"}, {Path: "/d/d0", Data: "null"}, {Path: "/d0", Dir: true}, {Path: "/d0/d"}}
	if l := tree.Walk(m.img); !slices.Equal(l, want) || !tree.Fit(l) {
		t.Errorf("Walk: %.40v", l)
	}
	telling(t, m)
	if to, e := loading(t, newModel(100), want); e != api.OK {
		t.Errorf("Load: %v", e)
	} else {
		telling(t, to)
	}
}

// P7.4: images as full as they can be.
func TestWalkFull(t *testing.T) {
	if l := tree.Walk(newModel(8).img); len(l) != 0 {
		t.Errorf("Walk of an empty root: %.40v", l)
	}
	m := newModel(512)
	for k := 1; m.inodes() > 0; k++ {
		path := fmt.Sprintf("/d%d/d%d/%024d", k%3, k%5, k*37%1000)
		m = m.holding(path, strings.Repeat(string(rune('a'+k%26)), k%3*130))
	}
	telling(t, m)
	if l := tree.Walk(m.img); len(l) != 127 {
		t.Errorf("%d files", len(l))
	}
}

// fitting asks for what Fit tells, and that Load asks for it.
func fitting(t *testing.T, what string, l []api.File, is bool) {
	t.Helper()
	in := roomy(l)
	if tree.Fit(in) != is || isFit(l) != is {
		t.Errorf("Fit of %s: %v, the test's own: %v", what, tree.Fit(in), isFit(l))
	}
	kept(t, what, in, l)
	if _, e := loading(t, stock(), l); (e == api.ErrState) == is {
		t.Errorf("Load of %s: %v", what, e)
	}
}

// P7.4: lists that are wrong in one part, and some that are not.
func TestFit(t *testing.T) {
	long, most, more := strings.Repeat("n", 24), strings.Repeat("m", 8704), strings.Repeat("m", 8705)
	good := func() []api.File {
		return []api.File{{Path: "/a", Dir: true}, {Path: "/a-", Data: "x"}, {Path: "/a/b", Dir: true}, {Path: "/a/b/c", Data: "y"}, {Path: "/a/d"}, {Path: "/e", Dir: true}}
	}
	with := func(at int, f api.File) []api.File {
		l := good()
		l[at] = f
		return l
	}
	without := func(at int) []api.File { return slices.Delete(good(), at, at+1) }
	swapped := func(a, b int) []api.File {
		l := good()
		l[a], l[b] = l[b], l[a]
		return l
	}
	twice := func(at int) []api.File { return slices.Insert(good(), at, good()[at]) }
	chain := func(n int, last api.File) []api.File {
		var l []api.File
		for k := 1; k < n; k++ {
			l = append(l, api.File{Path: rising(k), Dir: true})
		}
		last.Path = rising(n)
		return append(l, last)
	}
	one := func(f api.File) []api.File { return []api.File{f} }
	tests := []struct {
		what string
		l    []api.File
		is   bool
	}{
		{"a good one", good(), true}, {"nil", nil, true}, {"none", []api.File{}, true},
		{"a file", one(api.File{Path: "/x", Data: "x"}), true}, {"a file of no bytes", one(api.File{Path: "/x"}), true}, {"a directory", one(api.File{Path: "/x", Dir: true}), true},
		{"a name of 24 bytes", one(api.File{Path: "/" + long}), true}, {"a name of 25 bytes", one(api.File{Path: "/" + long + "n"}), false},
		{"no path", one(api.File{}), false}, {"no path, ahead", slices.Insert(good(), 0, api.File{}), false}, {"no path, a directory", one(api.File{Dir: true}), false},
		{"the root", one(api.File{Path: "/", Dir: true}), false}, {"the root ahead", slices.Insert(good(), 0, api.File{Path: "/", Dir: true}), false}, {"the root, a file", one(api.File{Path: "/"}), false}, {"the root ahead, a file", slices.Insert(good(), 0, api.File{Path: "/"}), false},
		{"a path without /", one(api.File{Path: "x"}), false}, {"a path without /, behind", append(good(), api.File{Path: "f"}), false},
		{"a path with / behind", one(api.File{Path: "/x/", Dir: true}), false}, {"a path with / behind, behind", with(5, api.File{Path: "/e/", Dir: true}), false},
		{"a path with //", one(api.File{Path: "//x"}), false}, {"a path with // below", with(4, api.File{Path: "/a//d"}), false},
		{"a name .", with(3, api.File{Path: "/a/b/."}), false}, {"a name ..", with(3, api.File{Path: "/a/b/.."}), false}, {"a name ...", with(3, api.File{Path: "/a/b/..."}), true},
		{"a name with a blank", with(4, api.File{Path: "/a/d "}), false}, {"a name with a zero", with(4, api.File{Path: "/a/d\x00"}), false}, {"a name of the byte 127", append(good(), api.File{Path: "/\x7f"}), false}, {"a name of the byte 126", append(good(), api.File{Path: "/~"}), true}, {"a name above 127", append(good(), api.File{Path: "/\u00e9"}), false},
		{"eight names", chain(8, api.File{Data: "x"}), true}, {"eight names, a directory", chain(8, api.File{Dir: true}), true}, {"nine names", chain(9, api.File{Data: "x"}), false}, {"nine names, a directory", chain(9, api.File{Dir: true}), false},
		{"the first two the other way round", swapped(0, 1), false}, {"two the other way round", swapped(1, 2), false}, {"the last two the other way round", swapped(4, 5), false}, {"the first and the last the other way round", swapped(0, 5), false}, {"what is below ahead", swapped(2, 3), false},
		{"in the order of entries", []api.File{{Path: "/a", Dir: true}, {Path: "/a/b"}, {Path: "/a-"}}, false}, {"in the order of paths", []api.File{{Path: "/a", Dir: true}, {Path: "/a-"}, {Path: "/a/b"}}, true},
		{"the first twice", twice(0), false}, {"a file twice", twice(1), false}, {"a file below twice", twice(3), false}, {"the last twice", twice(5), false},
		{"a path twice, with other data", []api.File{{Path: "/x", Data: "x"}, {Path: "/x", Data: "y"}}, false}, {"a path twice, as a file and a directory", []api.File{{Path: "/x"}, {Path: "/x", Dir: true}}, false},
		{"a directory with data", with(0, api.File{Path: "/a", Dir: true, Data: "x"}), false}, {"a directory below with data", with(2, api.File{Path: "/a/b", Dir: true, Data: "\x00"}), false}, {"the last with data", with(5, api.File{Path: "/e", Dir: true, Data: most}), false}, {"a directory with too much data", with(5, api.File{Path: "/e", Dir: true, Data: more}), false}, {"the last a file with data", with(5, api.File{Path: "/e", Data: "x"}), true},
		{"MaxFile bytes", with(1, api.File{Path: "/a-", Data: most}), true}, {"one byte more", with(1, api.File{Path: "/a-", Data: more}), false}, {"one byte more, below", with(3, api.File{Path: "/a/b/c", Data: more}), false}, {"one byte more, the last", append(good(), api.File{Path: "/f", Data: more}), false},
		{"a directory missing", without(0), false}, {"a directory missing below", without(2), false}, {"a file missing", without(1), true}, {"a file missing below", without(3), true}, {"the last missing", without(5), true},
		{"the directory missing of one", one(api.File{Path: "/a/b"}), false}, {"the directory missing of a directory", one(api.File{Path: "/a/b", Dir: true}), false}, {"only the one below missing", []api.File{{Path: "/a", Dir: true}, {Path: "/a/b/c"}}, false}, {"only the one above missing", []api.File{{Path: "/a/b", Dir: true}, {Path: "/a/b/c"}}, false}, {"another one's name", []api.File{{Path: "/a", Dir: true}, {Path: "/b/c"}}, false}, {"a name's beginning", []api.File{{Path: "/a", Dir: true}, {Path: "/ab/c"}}, false},
		{"a directory that is a file", with(0, api.File{Path: "/a"}), false}, {"a directory below that is a file", with(2, api.File{Path: "/a/b"}), false}, {"a directory that is a file with data", with(2, api.File{Path: "/a/b", Data: "x"}), false}, {"an empty directory that is a file", with(5, api.File{Path: "/e"}), true},
		{"a directory far ahead", []api.File{{Path: "/a", Dir: true}, {Path: "/a!", Dir: true}, {Path: "/a!/a"}, {Path: "/a-"}, {Path: "/a."}, {Path: "/a/a"}}, true},
	}
	for _, test := range tests {
		fitting(t, test.what, test.l, test.is)
	}
	var many []api.File // more than an image has inodes for
	for k := range 5000 {
		many = append(many, api.File{Path: fmt.Sprintf("/%06d", k), Dir: k%2 == 0})
	}
	if !tree.Fit(many) {
		t.Error("Fit of many: false")
	}
	if _, e := loading(t, stock(), many); e != api.ErrFull {
		t.Errorf("Load of many: %v", e)
	}
	many[4998].Data = "x"
	fitting(t, "many, one wrong", many, false)
}

// kinds is all files by these paths, of no bytes, of some, and directories.
func kinds(paths ...string) []api.File {
	var l []api.File
	for _, path := range paths {
		l = append(l, api.File{Path: path}, api.File{Path: path, Data: "x"}, api.File{Path: path, Dir: true})
	}
	return l
}

// lists is all lists of up to n of these.
func lists(n int, of []api.File) [][]api.File {
	all := [][]api.File{nil}
	row := all
	for range n {
		var next [][]api.File
		for _, l := range row {
			for _, f := range of {
				next = append(next, append(slices.Clone(l), f))
			}
		}
		row = next
		all = append(all, next...)
	}
	return all
}

// P7.4: all lists of few files.
func TestFitAll(t *testing.T) {
	of := append(kinds("/a", "/a-", "/a/b", "/a/b/c"), api.File{Path: "/"}, api.File{Path: "/b", Dir: true, Data: "x"})
	n := 0
	for _, l := range lists(4, of) {
		is := isFit(l)
		if tree.Fit(l) != is {
			t.Fatalf("Fit(%.40v): %v", l, !is)
		}
		if is {
			n++
		}
	}
	if n < 30 {
		t.Errorf("only %d are fit", n)
	}
}

// P7.4: field by field, lists that are fit and that are not.
func TestSame(t *testing.T) {
	of := append(kinds("/a", "/b", ""), api.File{Path: "/a", Dir: true, Data: "x"}, api.File{Path: "/a", Data: "y"}, api.File{Path: "/A", Data: "x"})
	all := append(lists(2, of), []api.File{})
	text := make([]string, len(all))
	for i, l := range all {
		for _, f := range l {
			text[i] += fmt.Sprintf("%q %v %q; ", f.Path, f.Dir, f.Data)
		}
	}
	for i, a := range all {
		for k, b := range all {
			if is := text[i] == text[k]; tree.Same(a, b) != is {
				t.Fatalf("Same(%.40v, %.40v): %v", a, b, !is)
			}
		}
	}
	if !tree.Same(nil, nil) || !tree.Same(nil, []api.File{}) || tree.Same(nil, []api.File{{}}) || tree.Same([]api.File{{}}, nil) || !tree.Same([]api.File{{}}, []api.File{{}}) {
		t.Error("Same of no element, and of an element that is none")
	}
	base := stock().list()
	for at := range base {
		for field := range 3 {
			l := slices.Clone(base)
			switch field {
			case 0:
				l[at].Path += "x"
			case 1:
				l[at].Dir = !l[at].Dir
			case 2:
				l[at].Data += "x"
			}
			if tree.Same(l, base) || tree.Same(base, l) || !tree.Same(l, slices.Clone(l)) {
				t.Errorf("Same with the field %d of %d being another", field, at)
			}
		}
		if tree.Same(base[:at], base) || tree.Same(base, base[:at]) || tree.Same(slices.Delete(slices.Clone(base), at, at+1), base) {
			t.Errorf("Same with %d missing", at)
		}
	}
	in, other := roomy(base), roomy(base)
	tree.Same(in, other)
	kept(t, "Same", in, base)
	kept(t, "Same", other, base)
}

// P7.5, P7.6: from all small trees to all others: files become directories and the other way round, come, go, and hold something else.
func TestLoadAll(t *testing.T) {
	var fit [][]api.File
	for _, l := range lists(4, kinds("/a", "/a-", "/a/b", "/a/b/c")) {
		if isFit(l) {
			fit = append(fit, l)
		}
	}
	for _, from := range fit {
		m, e := loading(t, newModel(32), from)
		if e != api.OK {
			t.Fatalf("Load(%.40v): %v", from, e)
		}
		for _, to := range fit {
			behind, e := loading(t, m, to)
			if e != api.OK || !maps.Equal(behind.has, mapped(to)) {
				t.Fatalf("Load(%.40v) behind %.40v: %v", to, from, e)
			}
		}
	}
}

// mapped is files by their paths.
func mapped(l []api.File) map[string]api.File {
	m := map[string]api.File{}
	for _, f := range l {
		m[f.Path] = f
	}
	return m
}

// P7.5: greater trees, one in the place of another.
func TestLoad(t *testing.T) {
	stocked := stock()
	text := strings.Repeat("text", 300)
	tests := [][]api.File{
		nil,
		{},
		stocked.list(),
		{{Path: "/1", Data: text}, {Path: "/a", Dir: true}, {Path: "/a!", Dir: true}, {Path: "/a!/b", Data: text}, {Path: "/a/b", Dir: true}, {Path: "/a/b/a", Data: "a"}, {Path: "/a/c", Data: "c"}, {Path: "/f", Dir: true}},
		{{Path: "/a", Data: text[:1]}},
		{{Path: "/f", Data: strings.Repeat("f", 700)}},
		{{Path: "/f", Data: strings.Repeat("f", 699)}},
		{{Path: "/f"}},
		{{Path: "/~", Dir: true}, {Path: "/~/~", Dir: true}, {Path: "/~/~/~", Data: text}},
		{{Path: "/a", Dir: true}, {Path: "/a/c", Dir: true}, {Path: "/a/c-", Dir: true}, {Path: "/a/c-/d", Dir: true}, {Path: "/a/c-/d/e", Data: "e"}, {Path: "/a/c/d", Data: strings.Repeat("\xff", 8704)}},
	}
	for _, from := range append(tests, newModel(8).list()) {
		m, e := loading(t, stocked, from)
		if e != api.OK {
			t.Fatalf("Load(%.40v): %v", from, e)
		}
		telling(t, m)
		for _, to := range tests {
			if behind, e := loading(t, m, to); e != api.OK || !slices.Equal(behind.list(), to) {
				t.Errorf("Load(%.40v) behind %.40v: %v", to, from, e)
			}
		}
	}
	m, e := loading(t, stocked, stocked.list())
	if e != api.OK || !slices.Equal(m.img, stocked.img) {
		t.Errorf("Load of what is there: %v", e)
	}
}

// P7.5: lists that are not fit, ahead of a lack of room.
func TestLoadErrors(t *testing.T) {
	full := newModel(64).spares().crowded(0).crammed(0)
	for _, m := range []model{newModel(8), stock(), full} {
		for _, l := range [][]api.File{{{}}, {{Path: "/"}}, {{Path: "/b"}, {Path: "/a"}}, {{Path: "/a/b"}}, {{Path: "/a", Dir: true, Data: "x"}}, {{Path: "/a", Data: strings.Repeat("a", 8705)}}, append(m.list(), api.File{Path: "/~~/x", Data: strings.Repeat("x", 8704)})} {
			if _, e := loading(t, m, l); e != api.ErrState {
				t.Errorf("Load(%.40v): %v", l, e)
			}
		}
	}
	if _, e := loading(t, full, append(full.list(), api.File{Path: "/~"})); e != api.ErrFull {
		t.Errorf("Load of one more into a full image: %v", e)
	}
}

// P7.5: where there is no room: what goes goes ahead of what comes, and what comes comes in order.
func TestLoadFull(t *testing.T) {
	file := func(path string, blocks int) api.File {
		return api.File{Path: path, Data: strings.Repeat(path[len(path)-1:], 128*blocks)}
	}
	folder := func(path string) api.File { return api.File{Path: path, Dir: true} }
	m := newModel(64).with("/b", "/d/", "/d/f", "/e").holding("/b", file("/b", 3).Data).holding("/d/f", file("/f", 4).Data).holding("/e", file("/e", 2).Data)
	m = m.spares().crammed(0)
	at := func(l ...api.File) []api.File { // all of these in the places of what is there by their paths, or between
		all := maps.Clone(m.has)
		for _, f := range l {
			if all[f.Path] = f; f.Path[len(f.Path)-1] == '#' {
				delete(all, f.Path)
				delete(all, f.Path[:len(f.Path)-1])
			}
		}
		return slices.SortedFunc(maps.Values(all), func(a, b api.File) int { return cmp.Compare(a.Path, b.Path) })
	}
	gone := func(path string) api.File { return api.File{Path: path + "#"} }
	tests := []struct {
		what string
		l    []api.File
		e    api.Errno
	}{
		{"nothing", at(), api.OK},
		{"a file of no bytes", at(file("/c", 0)), api.OK},
		{"a file of a block", at(file("/c", 1)), api.ErrFull},
		{"an empty directory", at(folder("/c")), api.OK},
		{"a directory with a file", at(folder("/c"), file("/c/c", 0)), api.ErrFull},
		{"other bytes", at(api.File{Path: "/b", Data: strings.Repeat("x", 384)}), api.OK},
		{"a byte more", at(api.File{Path: "/b", Data: strings.Repeat("b", 385)}), api.ErrFull},
		{"one shorter, then one longer", at(file("/b", 2), file("/e", 3)), api.OK},
		{"one longer, then one shorter", at(file("/b", 4), file("/e", 1)), api.ErrFull},
		{"one much shorter, then two longer", at(file("/b", 0), file("/d/f", 5), file("/e", 3)), api.OK},
		{"one much shorter, then two too much longer", at(file("/b", 0), file("/d/f", 5), file("/e", 4)), api.ErrFull},
		{"one gone behind, one longer ahead", at(file("/b", 5), gone("/e")), api.ErrFull}, // the indirect one, too
		{"one gone behind, one longer ahead by less", at(file("/b", 4), gone("/e")), api.OK},
		{"one gone behind, a new one ahead", at(file("/a", 2), gone("/e")), api.OK},
		{"one gone behind, too great a new one ahead", at(file("/a", 3), gone("/e")), api.ErrFull},
		{"one gone ahead, a new one behind", at(file("/f", 3), gone("/b")), api.OK},
		{"a file becomes a directory with a file", at(folder("/b"), file("/b/x", 2)), api.OK},
		{"a file becomes a directory with too great a file", at(folder("/b"), file("/b/x", 3)), api.ErrFull},
		{"a directory becomes a file", at(gone("/d/f"), file("/d", 4)), api.OK},
		{"a directory becomes too great a file", at(gone("/d/f"), file("/d", 5)), api.ErrFull}, // the indirect one, too
		{"a file's bytes go to a file ahead", at(file("/a", 2), file("/e", 0)), api.ErrFull},
		{"a file's bytes go to a file behind", at(file("/b", 0), file("/c", 3)), api.OK},
	}
	for _, test := range tests {
		if _, e := loading(t, m, test.l); e != test.e {
			t.Errorf("%s: %v, not %v", test.what, e, test.e)
		}
	}
}

// P7.5: all inodes, and one more; all others ahead of them gone.
func TestLoadCrowded(t *testing.T) {
	for _, n := range []int{8, 40, 512} {
		m := newModel(n)
		most := alloc.Inodes(m.img) - 1
		tier := func(mark string, n int) []api.File {
			var l []api.File
			for k := range n {
				l = append(l, api.File{Path: fmt.Sprintf("/%s%03d", mark, k), Dir: k%3 == 2})
			}
			return l
		}
		for _, mark := range []string{"m", "a", "z", "m"} {
			to, e := loading(t, m, tier(mark, most))
			if e != api.OK {
				t.Errorf("Load of %d files into %d blocks: %v", most, n, e)
			}
			for _, more := range []string{mark, "b", "y"} {
				if _, e := loading(t, to, tier(more, most+1)); e != api.ErrFull {
					t.Errorf("Load of %d files into %d blocks: %v", most+1, n, e)
				}
			}
			m = to
		}
	}
}

// P7.6, P7.7: long rows of calls on one image.
func TestRows(t *testing.T) {
	for seed := range uint64(12) {
		r := rand.New(rand.NewPCG(77, seed))
		m := newModel([]int{8, 16, 24, 40, 64, 100, 160, 256, 400, 512, 33, 80}[seed])
		errs := map[api.Errno]int{}
		for k := range 200 {
			e := api.OK
			switch r.IntN(10) {
			case 0:
				m, e = cutting(t, m, anyPath(r, m))
			case 1, 2:
				m, e = loading(t, m, anyList(r, m))
			default:
				m, e = putting(t, m, anyPath(r, m), strings.Repeat(string(rune('a'+r.IntN(26))), r.IntN(30)*r.IntN(30)))
			}
			errs[e]++
			if k%40 == 39 {
				telling(t, m)
			}
		}
		if seed > 3 && (errs[api.OK] < 40 || len(errs) < 4) {
			t.Errorf("seed %d: %v", seed, errs)
		}
	}
}

// anyPath is a path that is there, or near one, or now and then none.
func anyPath(r *rand.Rand, m model) string {
	path := ""
	if all := m.paths(); len(all) > 0 && r.IntN(4) > 0 {
		path = all[r.IntN(len(all))]
	}
	switch r.IntN(12) {
	case 0, 1, 2, 3:
		return path
	case 4:
		return path + "/"
	case 5:
		return path + "/" + strings.Repeat("long", 1+r.IntN(6))
	case 6:
		return path + string("/. ~\x7f"[r.IntN(5)])
	case 7, 8:
		return path + "/" + string("abcd"[r.IntN(4)]) + "/" + string("efgh"[r.IntN(4)])
	}
	return path + "/" + string("abcdefgh"[r.IntN(8)]) + strings.Repeat("-", r.IntN(3)*r.IntN(2))
}

// anyList is what is there with a few changes, mostly fit.
func anyList(r *rand.Rand, m model) []api.File {
	all := maps.Clone(m.has)
	for range 1 + r.IntN(4) {
		path := anyPath(r, m)
		if parts(path) == api.OK && path != "/" {
			for at := range all { // a file has nothing below
				if strings.HasPrefix(at, path+"/") {
					delete(all, at)
				}
			}
			for _, at := range ways(path) {
				all[at] = api.File{Path: at, Dir: true}
			}
			if r.IntN(3) > 0 {
				all[path] = api.File{Path: path, Data: strings.Repeat("l", r.IntN(20)*r.IntN(30))}
			}
		}
		if r.IntN(3) == 0 {
			delete(all, path)
		}
	}
	return slices.SortedFunc(maps.Values(all), func(a, b api.File) int { return cmp.Compare(a.Path, b.Path) })
}

// laid is an image with these inodes, the kinds of which say what they are, whatever they hold.
func laid(n int, l ...string) []string {
	img, _ := alloc.Make(n)
	for i, data := range l {
		img, _, _ = inode.New(img, api.InDir)
		img, _ = inode.Write(img, i, 0, data)
	}
	return img
}

// one is an entry as bytes.
func one(name string, ino int) string {
	return string(rune(len(name))) + name + string([]byte{byte(ino >> 8), byte(ino)})
}

// 0.1: images that are none, or not sound, directories in circles and directories that hold themselves many times among them.
func TestUnsound(t *testing.T) {
	all(nil)
	all([]string{""})
	block := strings.Repeat("\x00", api.BlockSize)
	for _, n := range []int{1, 2, 3, 7, 8, 64, 600} {
		for _, s := range []string{"", "a", block, block[1:], strings.Repeat("\xff", api.BlockSize), strings.Repeat("\x02", api.BlockSize)} {
			all(slices.Repeat([]string{s}, n))
		}
	}
	circle := ""
	for k := range 322 {
		circle += one(fmt.Sprintf("%024d", k), k%4)
	}
	all(laid(400, one("a", 1)+one("b", 2), circle, circle, circle))
	all(laid(400, circle+one("a", 65535), circle, circle, circle))
	all(laid(64, one("a", 0)))
	all(laid(64, one("a", 0)+one("b", 1), one("a", 0)))
	all(laid(64, one("a", 9)+one("b", 400)))
	all(laid(64, one("a", 1)+one("a", 2)+one("b", 1), "", ""))
	all(laid(64, one("b", 1)+one("a", 2), one("a", 2), one("a", 1)))
	r := rand.New(rand.NewPCG(1, 7))
	for range 300 {
		img := stock().img
		for range 1 + r.IntN(6) {
			at, from := r.IntN(len(img)), r.IntN(api.BlockSize)
			img[at] = img[at][:from] + string([]byte{byte(r.IntN(40))}) + img[at][from+1:]
		}
		all(img)
	}
}

// all does every call on an image.
func all(img []string) {
	paths := []string{"", "/", "/a", "/b", "/a/a", "/a/b", "/x", "/f", "/e/x", "/1", "/1/2/3", rising(8), rising(9), strings.Repeat("/a", 7), "/000000000000000000000001"}
	for _, path := range paths {
		tree.Read(img, path)
		tree.Put(img, path, "some")
		tree.Put(img, path, strings.Repeat("much", 2176))
		tree.Cut(img, path)
	}
	tree.Walk(img)
	tree.Fit(tree.Walk(img))
	tree.Load(img, nil)
	tree.Load(img, tree.Walk(img))
	tree.Load(img, []api.File{{Path: "/a", Dir: true}, {Path: "/a/b", Data: "x"}, {Path: "/b", Dir: true}})
}

// The chapter's example.
func TestExample(t *testing.T) {
	img, e := dir.Make(16)
	if e != api.OK {
		t.Errorf("Make: %v", e)
	}
	img, e = tree.Put(img, "/a/b", "x")
	if l := tree.Walk(img); e != api.OK || !tree.Same(l, []api.File{{Path: "/a", Dir: true}, {Path: "/a/b", Data: "x"}}) {
		t.Errorf("Put: %v, %.40v", e, l)
	}
	if s, e := tree.Read(img, "/a/b"); s != "x" || e != api.OK {
		t.Errorf("Read: %q, %v", s, e)
	}
	img, e = tree.Cut(img, "/a")
	if l := tree.Walk(img); e != api.OK || len(l) != 0 || !dir.Sound(img) {
		t.Errorf("Cut: %v, %.40v", e, l)
	}
}

// What lies where, written out.
func TestBytes(t *testing.T) {
	padded := func(s string) string { return s + strings.Repeat("\x00", api.BlockSize-len(s)) }
	img, _ := dir.Make(16)
	img, _ = tree.Put(img, "/b/c", "text")
	for at, s := range map[int]string{3: "\x01b\x00\x01", 4: "\x01c\x00\x02", 5: "text"} {
		if img[at] != padded(s) {
			t.Errorf("the block %d: %q", at, img[at])
		}
	}
	img, _ = tree.Load(img, []api.File{{Path: "/a", Data: "x"}, {Path: "/b", Dir: true}})
	for at, s := range map[int]string{3: "\x01a\x00\x02\x01b\x00\x01", 4: "x", 5: "text"} { // what was /b's block is the first that is free
		if img[at] != padded(s) || alloc.Taken(img, at) != (at < 5) {
			t.Errorf("the block %d: %q", at, img[at])
		}
	}
	img, _ = tree.Put(img, "/a", "")
	if img[4] != padded("x") || alloc.Taken(img, 4) { // what is given back holds what it did
		t.Errorf("the block 4: %q", img[4])
	}
}
