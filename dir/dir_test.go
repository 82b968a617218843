package dir_test

import (
	"fmt"
	"maps"
	"math"
	"math/rand/v2"
	"regexp"
	"slices"
	"strings"
	"testing"

	"almanac/alloc"
	"almanac/api"
	"almanac/dir"
	"almanac/inode"
)

// far is numbers that are no kind.
var far = []int{math.MinInt, math.MinInt32, -257, -2, -1, 0, 3, 4, 128, 255, 256, 257, 258, 65537, 1<<32 + 1, math.MaxInt}

// model is an image as it is meant: its bytes, as package inode lays them, and which inode each path leads to.
type model struct {
	img []string
	ino map[string]int
}

func newModel(n int) model {
	img, _ := alloc.Make(n)
	img, _, _ = inode.New(img, api.InDir)
	return model{img, map[string]int{"/": 0}}
}

// up is a path without its last name.
func up(path string) string {
	return path[:max(strings.LastIndex(path, "/"), 1)]
}

// base is a path's last name.
func base(path string) string { return path[strings.LastIndex(path, "/")+1:] }

// spelt is entries as bytes, in the order in which they stand.
func spelt(l ...api.Entry) string {
	s := ""
	for _, one := range l {
		s += string(rune(len(one.Name))) + one.Name + string([]byte{byte(one.Ino >> 8), byte(one.Ino)})
	}
	return s
}

// one is an entry as bytes.
func one(name string, ino int) string { return spelt(api.Entry{Name: name, Ino: ino}) }

var isPath = regexp.MustCompile(`^/$|^(/[\x21-\x2e\x30-\x7e]{1,24})+$`)

// parts is Parts' error.
func parts(path string) api.Errno {
	switch {
	case !isPath.MatchString(path), strings.Contains(path+"/", "/./"), strings.Contains(path+"/", "/../"):
		return api.ErrName
	case strings.Count(path, "/") > 8:
		return api.ErrDeep
	}
	return api.OK
}

func (m model) kind(path string) int {
	in, _ := inode.Get(m.img, m.ino[path])
	return in.Kind
}

// has tells whether something is there.
func (m model) has(path string) bool {
	_, ok := m.ino[path]
	return ok
}

// find is Find's error.
func (m model) find(path string) api.Errno {
	if e := parts(path); e != api.OK || path == "/" {
		return e
	}
	if e := m.find(up(path)); e != api.OK {
		return e
	}
	switch {
	case m.kind(up(path)) == api.InFile:
		return api.ErrKind
	case !m.has(path):
		return api.ErrNone
	}
	return api.OK
}

// list is what a directory holds.
func (m model) list(path string) []api.Entry {
	var l []api.Entry
	for p, i := range m.ino {
		if p != "/" && up(p) == path {
			l = append(l, api.Entry{Name: base(p), Ino: i, Kind: m.kind(p)})
		}
	}
	slices.SortFunc(l, func(a, b api.Entry) int { return strings.Compare(a.Name, b.Name) })
	return l
}

// paths is all paths, rising.
func (m model) paths() []string { return slices.Sorted(maps.Keys(m.ino)) }

// longer is the model with a directory as long as its entries, and then written; shorter, the other way round.
func (m model) longer(path string) (model, api.Errno) {
	text, i, e := spelt(m.list(path)...), m.ino[path], api.OK
	if m.img, e = inode.Truncate(m.img, i, len(text)); e == api.OK {
		m.img, e = inode.Write(m.img, i, 0, text)
	}
	return m, e
}

func (m model) shorter(path string) (model, api.Errno) {
	text, i, e := spelt(m.list(path)...), m.ino[path], api.OK
	if m.img, e = inode.Write(m.img, i, 0, text); e == api.OK {
		m.img, e = inode.Truncate(m.img, i, len(text))
	}
	return m, e
}

// free is an error of a place where something is to stand; between is one that goes ahead of ErrHave.
func (m model) free(path string, between api.Errno) api.Errno {
	if e := parts(path); e != api.OK {
		return e
	}
	if path == "/" {
		return api.ErrHave
	}
	if e := m.find(up(path)); e != api.OK {
		return e
	}
	switch {
	case m.kind(up(path)) == api.InFile:
		return api.ErrKind
	case between != api.OK:
		return between
	case m.has(path):
		return api.ErrHave
	}
	return api.OK
}

func (m model) add(path string, kind int) (model, int, api.Errno) {
	bad := api.OK
	if kind != api.InFile && kind != api.InDir {
		bad = api.ErrKind
	}
	if e := m.free(path, bad); e != api.OK {
		return m, 0, e
	}
	img, i, e := inode.New(m.img, kind)
	if e != api.OK {
		return m, 0, e
	}
	to := model{img, maps.Clone(m.ino)}
	to.ino[path] = i
	if to, e = to.longer(up(path)); e != api.OK {
		return m, 0, e
	}
	return to, i, api.OK
}

func (m model) remove(path string) (model, api.Errno) {
	if e := m.find(path); e != api.OK {
		return m, e
	}
	switch {
	case path == "/":
		return m, api.ErrName
	case len(m.list(path)) > 0:
		return m, api.ErrBusy
	}
	to := model{m.img, maps.Clone(m.ino)}
	delete(to.ino, path)
	to, e := to.shorter(up(path))
	if e == api.OK {
		to.img, e = inode.Drop(to.img, m.ino[path])
	}
	if e != api.OK {
		return m, e
	}
	return to, e
}

// renameError is the error of Rename, but those of a lack of room.
func (m model) renameError(from, to string) api.Errno {
	if e := m.find(from); e != api.OK {
		return e
	}
	if from == "/" || parts(to) == api.OK && strings.HasPrefix(to+"/", from+"/") {
		return api.ErrName
	}
	if e := m.free(to, api.OK); e != api.OK {
		return e
	}
	for path := range m.ino {
		if strings.HasPrefix(path, from+"/") && strings.Count(to+path[len(from):], "/") > 8 {
			return api.ErrDeep
		}
	}
	return api.OK
}

func (m model) rename(from, to string) (model, api.Errno) {
	if e := m.renameError(from, to); e != api.OK {
		return m, e
	}
	gone := model{m.img, maps.Clone(m.ino)}
	delete(gone.ino, from)
	gone, e := gone.shorter(up(from))
	if e != api.OK {
		return m, e
	}
	behind := model{gone.img, map[string]int{}}
	for path, i := range m.ino {
		if path == from || strings.HasPrefix(path, from+"/") {
			path = to + path[len(from):]
		}
		behind.ino[path] = i
	}
	if behind, e = behind.longer(up(to)); e != api.OK {
		return m, e
	}
	return behind, e
}

// with is the model with all of these, those that end in / directories.
func (m model) with(paths ...string) model {
	for _, path := range paths {
		kind := api.InFile
		if strings.HasSuffix(path, "/") {
			kind = api.InDir
		}
		to, _, e := m.add(strings.TrimSuffix(path, "/"), kind)
		if e != api.OK {
			panic(path + ": " + e.Error())
		}
		m = to
	}
	return m
}

// holding is the model with bytes in a file.
func (m model) holding(path, data string) model {
	img, e := inode.Write(m.img, m.ino[path], 0, data)
	if e != api.OK {
		panic(path + ": " + e.Error())
	}
	return model{img, m.ino}
}

// crammed is the model with all blocks but so many taken by its files that hold nothing.
func (m model) crammed(left int) model {
	const most = 69 // blocks of a file, with the indirect one
	for _, path := range m.paths() {
		n := min(alloc.Free(m.img)-left, most)
		if in, _ := inode.Get(m.img, m.ino[path]); in.Kind != api.InFile || in.Size > 0 || n <= 0 {
			continue
		}
		if n > api.Direct { // the indirect one; of five blocks it is four data blocks, and the next file has the fifth
			n--
		}
		m = m.holding(path, strings.Repeat("~", n*api.BlockSize))
	}
	if n := alloc.Free(m.img); n != left {
		panic(fmt.Sprint(n, " blocks free, not ", left))
	}
	return m
}

// stuffed is the model with files in a directory till it has so many bytes.
func (m model) stuffed(path string, size int) model {
	const most = api.MaxName + 3
	for k := 0; ; k++ {
		left := size - len(spelt(m.list(path)...))
		if left == 0 {
			return m
		}
		n := min(left, most)
		if rest := left - n; rest > 0 && rest < 8 {
			n -= 8
		}
		name := fmt.Sprintf("%0*d", api.MaxName, k)[api.MaxName+3-n:]
		for c := '!'; m.has(strings.TrimSuffix(path, "/") + "/" + name); c++ {
			name = name[:len(name)-1] + string(c)
		}
		m = m.with(strings.TrimSuffix(path, "/") + "/" + name)
	}
}

// roomy is a list with room behind it, so that who appends to it shares it.
func roomy(l []string) []string { return append(make([]string, 0, len(l)+8), l...) }

// kept asks that a list is as it was, the room behind it too.
func kept(t *testing.T, what string, l, was []string) {
	t.Helper()
	for i, v := range l[:cap(l)] {
		if i < len(was) && v != was[i] || i >= len(was) && v != "" {
			t.Fatalf("%s: what was handed in is changed at %d", what, i)
		}
	}
}

// spoil changes all of a list that was told, the room behind it too.
func spoil[T any](l []T, with T) {
	for i := range l[:cap(l)] {
		l[:cap(l)][i] = with
	}
}

// behind asks for all that is promised of an image that a call tells.
func behind(t *testing.T, what string, in, out []string, was, want model, e, err api.Errno) {
	t.Helper()
	if e != err {
		t.Fatalf("%s: %v, not %v", what, e, err)
	}
	if e != api.OK && !slices.Equal(out, was.img) {
		t.Fatalf("%s: %v, and the image is not as it was", what, e)
	}
	if !slices.Equal(out, want.img) {
		t.Fatalf("%s: another image: %q, not %q", what, out, want.img)
	}
	if !dir.Sound(out) {
		t.Fatalf("%s: not sound behind", what)
	}
	kept(t, what, in, was.img)
	spoil(out, "spoilt")
	kept(t, what+", what is told being changed", in, was.img)
}

// adding does Add on a model's image, and asks for all that is promised of it.
func adding(t *testing.T, m model, path string, kind int) (model, api.Errno) {
	t.Helper()
	in := roomy(m.img)
	out, i, e := dir.Add(in, path, kind)
	want, at, err := m.add(path, kind)
	what := fmt.Sprintf("Add(%q, %d)", path, kind)
	if i != at {
		t.Errorf("%s: %d, not %d", what, i, at)
	}
	behind(t, what, in, out, m, want, e, err)
	return want, e
}

// removing does Remove likewise.
func removing(t *testing.T, m model, path string) (model, api.Errno) {
	t.Helper()
	in := roomy(m.img)
	out, e := dir.Remove(in, path)
	want, err := m.remove(path)
	behind(t, fmt.Sprintf("Remove(%q)", path), in, out, m, want, e, err)
	return want, e
}

// renaming does Rename likewise.
func renaming(t *testing.T, m model, from, to string) (model, api.Errno) {
	t.Helper()
	in := roomy(m.img)
	out, e := dir.Rename(in, from, to)
	want, err := m.rename(from, to)
	behind(t, fmt.Sprintf("Rename(%q, %q)", from, to), in, out, m, want, e, err)
	return want, e
}

// telling asks for all that Find and List tell of an image, of paths too that are not there, or are none.
func telling(t *testing.T, m model) {
	t.Helper()
	in := roomy(m.img)
	paths := []string{"", "//", "/.", "a", "/ ", strings.Repeat("/a", 8), strings.Repeat("/a", 9)}
	for _, path := range m.paths() {
		near := strings.TrimSuffix(path, "/")
		paths = append(paths, path, near+"/", near+"/\x7f", near+"/zz", near+"/zz/y", path+"z", near[:max(len(near)-1, 0)])
	}
	for _, path := range paths {
		i, err := 0, m.find(path)
		if err == api.OK {
			i = m.ino[path]
		}
		if got, e := dir.Find(in, path); got != i || e != err {
			t.Fatalf("Find(%q): %d, %v, not %d, %v", path, got, e, i, err)
		}
		var l []api.Entry
		if err == api.OK && m.kind(path) == api.InFile {
			err = api.ErrKind
		}
		if err == api.OK {
			l = m.list(path)
		}
		for range 2 { // again, what was told being changed
			got, e := dir.List(in, path)
			if !slices.Equal(got, l) || e != err {
				t.Fatalf("List(%q): %v, %v, not %v, %v", path, got, e, l, err)
			}
			spoil(got, api.Entry{Name: "spoilt"})
		}
	}
	if !dir.Sound(in) {
		t.Fatal("not sound")
	}
	kept(t, "telling", in, m.img)
}

// rising is n names, each below the one ahead.
func rising(n int) string {
	return "/1/2/3/4/5/6/7/8/9"[:2*n]
}

// chain is the paths to make for as many directories in one another.
func chain(n int) []string {
	var l []string
	for k := 1; k <= n; k++ {
		l = append(l, rising(k)+"/")
	}
	return l
}

// stock is an image with files and directories of all kinds, free inodes among them.
func stock() model {
	m := newModel(128).with(chain(8)...).with("/a/", "/a/b", "/a/c/", "/a/c/d", "/e/", "/f", "/gone", "/ab", "/a!", "/~/", "/a/c/e/", "/a/c/e/x")
	m = m.holding("/f", strings.Repeat("f", 700)).holding("/a/b", "\x01a\x00\x05").holding("/a/c/e/x", one("b", 3))
	m, e := m.remove("/gone")
	if e != api.OK {
		panic(e)
	}
	return m.with("/1/2/z", "/1/2/3/4/5/6/7/z")
}

// P6.1: all counts of blocks.
func TestMake(t *testing.T) {
	for _, n := range []int{math.MinInt, -8, -1, 0, 1, 6, 7, 513, 514, 1024, 1 << 32, math.MaxInt} {
		if img, e := dir.Make(n); img != nil || e != api.ErrNumber {
			t.Errorf("Make(%d): %q, %v", n, img, e)
		}
	}
	for n := 8; n <= 512; n++ {
		img, e := dir.Make(n)
		want, _ := alloc.Make(n)
		want[2] = "\x02" + want[2][1:]
		if e != api.OK || !slices.Equal(img, want) {
			t.Fatalf("Make(%d): %q, %v", n, img, e)
		}
		if l, e := dir.List(img, "/"); len(l) != 0 || e != api.OK || !dir.Sound(img) {
			t.Errorf("List of Make(%d): %v, %v", n, l, e)
		}
	}
}

// P6.1: lengths, and each byte in each place.
func TestName(t *testing.T) {
	may := func(b int) bool { return b >= 33 && b <= 126 && b != 47 }
	for b := range 256 {
		c := string([]byte{byte(b)})
		for _, s := range []string{c + "a", "a" + c, "a" + c + "b", c + c, strings.Repeat("a", 23) + c, c + strings.Repeat("a", 23), c + "..", ".." + c} {
			if dir.Name(s) != (may(b) && s != ".." && s != ".") {
				t.Errorf("Name(%q): %v", s, dir.Name(s))
			}
		}
		if dir.Name(c) != (may(b) && c != ".") {
			t.Errorf("Name(%q): %v", c, dir.Name(c))
		}
	}
	for n := range 300 {
		if s := strings.Repeat("a", n); dir.Name(s) != (n >= 1 && n <= 24) {
			t.Errorf("Name of %d bytes: %v", n, dir.Name(s))
		}
	}
	for s, is := range map[string]bool{"": false, ".": false, "..": false, "...": true, ".a": true, "a.": true, "..a": true, "!": true, "~": true, "0": true, " ": false, "/": false, "\x7f": false, "\x00": false, "a/b": false, "é": false, "a b": false, "%2f": true, strings.Repeat(".", 24): true, strings.Repeat("é", 12): false} {
		if dir.Name(s) != is {
			t.Errorf("Name(%q): %v", s, !is)
		}
	}
}

// P6.2: paths that are none, and those with names up to the most.
func TestParts(t *testing.T) {
	long := strings.Repeat("n", 24)
	tests := []struct {
		path  string
		names []string
		e     api.Errno
	}{
		{"/", nil, api.OK},
		{"/a", []string{"a"}, api.OK},
		{"/a/b", []string{"a", "b"}, api.OK},
		{"/.a/b./...", []string{".a", "b.", "..."}, api.OK},
		{"/!/~", []string{"!", "~"}, api.OK},
		{"/" + long, []string{long}, api.OK},
		{"/1/2/3/4/5/6/7", strings.Split("1234567", ""), api.OK},
		{"/1/2/3/4/5/6/7/8", strings.Split("12345678", ""), api.OK},
		{strings.Repeat("/"+long, 8), slices.Repeat([]string{long}, 8), api.OK},
		{"/1/2/3/4/5/6/7/8/9", nil, api.ErrDeep},
		{strings.Repeat("/a", 10), nil, api.ErrDeep},
		{strings.Repeat("/a", 5000), nil, api.ErrDeep},
		{strings.Repeat("/"+long, 9), nil, api.ErrDeep},
		{"", nil, api.ErrName},
		{"a", nil, api.ErrName},
		{"a/b", nil, api.ErrName},
		{"a/", nil, api.ErrName},
		{"//", nil, api.ErrName},
		{"///", nil, api.ErrName},
		{"/a/", nil, api.ErrName},
		{"/a//", nil, api.ErrName},
		{"//a", nil, api.ErrName},
		{"/a//b", nil, api.ErrName},
		{" /a", nil, api.ErrName},
		{"/a ", nil, api.ErrName},
		{"/a b", nil, api.ErrName},
		{"/.", nil, api.ErrName},
		{"/..", nil, api.ErrName},
		{"/a/.", nil, api.ErrName},
		{"/a/../b", nil, api.ErrName},
		{"/./a", nil, api.ErrName},
		{"/a\x00", nil, api.ErrName},
		{"/a\n", nil, api.ErrName},
		{"/\x7f", nil, api.ErrName},
		{"/\xc3\xa9", nil, api.ErrName},
		{"/" + long + "n", nil, api.ErrName},
		{"/a/" + long + "n/b", nil, api.ErrName},
		{"/1/2/3/4/5/6/7/8/", nil, api.ErrName}, // nine names, one of which is none
		{"/1/2/3/4/5/6/7/8/9/", nil, api.ErrName},
		{"/1/2/3/4/5/6/7/8/.", nil, api.ErrName},
		{"/1/2/3/4/5/6/7/8/9/10/..", nil, api.ErrName},
		{"//2/3/4/5/6/7/8/9", nil, api.ErrName},
		{strings.Repeat("/a", 5000) + "/", nil, api.ErrName},
		{strings.Repeat("/", 5000), nil, api.ErrName},
		{strings.Repeat("a", 5000), nil, api.ErrName},
	}
	for _, test := range tests {
		for range 2 { // again, what was told being changed
			names, e := dir.Parts(test.path)
			if !slices.Equal(names, test.names) || e != test.e || e != parts(test.path) {
				t.Errorf("Parts(%.50q): %q, %v, not %q, %v", test.path, names, e, test.names, test.e)
			}
			spoil(names, "spoilt")
		}
		if test.e != api.OK { // the error of paths is the one of all calls
			m := stock()
			_, add := adding(t, m, test.path, 7)
			_, gone := removing(t, m, test.path)
			_, from := renaming(t, m, test.path, "//")
			_, to := renaming(t, m, "/f", test.path)
			_, find := dir.Find(m.img, test.path)
			_, list := dir.List(m.img, test.path)
			for k, e := range []api.Errno{add, gone, from, to, find, list} {
				if e != test.e {
					t.Errorf("%.50q, call %d: %v, not %v", test.path, k, e, test.e)
				}
			}
		}
	}
}

// P6.3, P6.4: all that an image holds, and what it does not.
func TestFind(t *testing.T) {
	m := stock()
	telling(t, m)
	telling(t, newModel(8))
	tests := []struct {
		path string
		i    int
		e    api.Errno
		list api.Errno
	}{
		{"/", 0, api.OK, api.OK},
		{"/1", 1, api.OK, api.OK},
		{"/1/2/3/4/5/6/7/8", 8, api.OK, api.OK},
		{"/1/2/3/4/5/6/7/8/9", 0, api.ErrDeep, api.ErrDeep},
		{"/f/x/x/x/x/x/x/x/x", 0, api.ErrDeep, api.ErrDeep}, // ahead of the file
		{"/f//x", 0, api.ErrName, api.ErrName},
		{"/x//x", 0, api.ErrName, api.ErrName},
		{"/f", m.ino["/f"], api.OK, api.ErrKind},
		{"/a/b", m.ino["/a/b"], api.OK, api.ErrKind},
		{"/f/x", 0, api.ErrKind, api.ErrKind},
		{"/f/x/y", 0, api.ErrKind, api.ErrKind},
		{"/a/b/a", 0, api.ErrKind, api.ErrKind}, // what the file holds is an entry
		{"/a/c/e/x/b", 0, api.ErrKind, api.ErrKind},
		{"/x", 0, api.ErrNone, api.ErrNone},
		{"/x/f", 0, api.ErrNone, api.ErrNone},
		{"/gone", 0, api.ErrNone, api.ErrNone},
		{"/b", 0, api.ErrNone, api.ErrNone},
		{"/F", 0, api.ErrNone, api.ErrNone},
		{"/a/x", 0, api.ErrNone, api.ErrNone},
		{"/a/a", 0, api.ErrNone, api.ErrNone},
		{"/a/c/d", m.ino["/a/c/d"], api.OK, api.ErrKind},
		{"/e", m.ino["/e"], api.OK, api.OK},
		{"/e/x", 0, api.ErrNone, api.ErrNone},
		{"/1/2/3/4/5/6/7/y", 0, api.ErrNone, api.ErrNone},
		{"/1/2/3/4/5/6/7/8/y", 0, api.ErrDeep, api.ErrDeep},
	}
	for _, test := range tests {
		if i, e := dir.Find(m.img, test.path); i != test.i || e != test.e {
			t.Errorf("Find(%q): %d, %v, not %d, %v", test.path, i, e, test.i, test.e)
		}
		if l, e := dir.List(m.img, test.path); e != test.list || e != api.OK && l != nil {
			t.Errorf("List(%q): %v, %v, not %v", test.path, l, e, test.list)
		}
	}
	want := []api.Entry{{Name: "b", Ino: m.ino["/a/b"], Kind: api.InFile}, {Name: "c", Ino: m.ino["/a/c"], Kind: api.InDir}}
	if l, e := dir.List(m.img, "/a"); e != api.OK || !slices.Equal(l, want) {
		t.Errorf("List(/a): %v, %v", l, e)
	}
}

// P6.5: the errors, also where several hold at once.
func TestAddErrors(t *testing.T) {
	m := stock()
	noInode := newModel(16).with("/a/", "/f", "/a/b")
	noBlock := newModel(48).with("/a/", "/f", "/g").stuffed("/", 128).crammed(0)
	tests := []struct {
		m    model
		path string
		kind int
		e    api.Errno
	}{
		{m, "", 7, api.ErrName}, {m, "/f/", 1, api.ErrName}, {m, "/f/./x", 7, api.ErrName}, {m, "/x//y", 1, api.ErrName},
		{m, "/1/2/3/4/5/6/7/8/9", 1, api.ErrDeep}, {m, "/1/2/3/4/5/6/7/8/9", 7, api.ErrDeep}, {m, "/f/1/2/3/4/5/6/7/8", 1, api.ErrDeep}, {m, "/x/1/2/3/4/5/6/7/8", 2, api.ErrDeep},
		{m, "/", 1, api.ErrHave}, {m, "/", 2, api.ErrHave}, {m, "/", 0, api.ErrHave}, {m, "/", 7, api.ErrHave},
		{m, "/x/y", 1, api.ErrNone}, {m, "/x/y", 7, api.ErrNone}, {m, "/a/x/y", 2, api.ErrNone}, {m, "/x/f/y", 1, api.ErrNone}, {m, "/1/2/3/4/5/6/9/8", 1, api.ErrNone},
		{m, "/f/x/y", 1, api.ErrKind}, {m, "/f/x", 1, api.ErrKind}, {m, "/f/x", 7, api.ErrKind}, {m, "/a/b/c", 2, api.ErrKind}, {m, "/a/b/a", 1, api.ErrKind},
		{m, "/x", 0, api.ErrKind}, {m, "/x", 3, api.ErrKind}, {m, "/x", -1, api.ErrKind}, {m, "/a/x", 7, api.ErrKind}, {m, "/f", 0, api.ErrKind}, {m, "/a", 3, api.ErrKind}, {m, "/a/b", 7, api.ErrKind},
		{m, "/f", 1, api.ErrHave}, {m, "/f", 2, api.ErrHave}, {m, "/a", 1, api.ErrHave}, {m, "/a", 2, api.ErrHave}, {m, "/a/c/d", 1, api.ErrHave}, {m, "/1/2/3/4/5/6/7/8", 2, api.ErrHave}, {m, "/1/2/3/4/5/6/7/z", 1, api.ErrHave},
		{m, "/x", 1, api.OK}, {m, "/x", 2, api.OK}, {m, "/e/x", 1, api.OK}, {m, "/1/2/3/4/5/6/7/9", 2, api.OK}, {m, "/1/2/3/4/5/6/7/9", 1, api.OK}, {m, "/a/a", 1, api.OK}, {m, "/gone", 2, api.OK}, {m, "/a/c/e/y", 1, api.OK},
		{noInode, "/x", 1, api.ErrFull}, {noInode, "/a/x", 2, api.ErrFull}, {noInode, "/x", 7, api.ErrKind}, {noInode, "/f", 1, api.ErrHave}, {noInode, "/f/x", 1, api.ErrKind}, {noInode, "/y/x", 1, api.ErrNone}, {noInode, "/", 1, api.ErrHave}, {noInode, "/.", 1, api.ErrName},
		{noBlock, "/a/x", 1, api.ErrFull}, {noBlock, "/a/x", 2, api.ErrFull}, {noBlock, "/x", 2, api.ErrFull}, {noBlock, "/x/y", 1, api.ErrNone}, {noBlock, "/a/x", 7, api.ErrKind}, {noBlock, "/f", 2, api.ErrHave},
	}
	for _, test := range tests {
		if _, e := adding(t, test.m, test.path, test.kind); e != test.e {
			t.Errorf("Add(%q, %d): %v, not %v", test.path, test.kind, e, test.e)
		}
	}
	for _, kind := range far {
		for _, path := range []string{"/x", "/f", "/f/x", "/x/y", "/", "x", rising(9)} {
			adding(t, m, path, kind)
		}
	}
}

// P6.5: names of all lengths and bytes, to be found among those ahead and behind.
func TestAddNames(t *testing.T) {
	m := stock()
	for b := range 256 {
		adding(t, m, "/"+string([]byte{byte(b)}), api.InFile)
		adding(t, m, "/a/m"+string([]byte{byte(b)})+"m", api.InDir)
	}
	for n := range 27 {
		adding(t, m, "/a/"+strings.Repeat("b", n), api.InFile)
	}
	for _, name := range []string{".", "..", "...", "!", "~", "~~", "a!", "aa", "a~", "b", "A", "0", "a/", "/a"} {
		adding(t, m, "/"+name, api.InDir)
		adding(t, m, "/e/"+name, api.InFile)
	}
}

// spare is files to cram an image with.
var spare = []string{"/p/", "/p/1", "/p/2", "/p/3", "/p/4", "/p/5"}

// P6.5: where the entries fill just so many blocks, and where the blocks that the directory needs more are just there, or one too few.
func TestAddGrows(t *testing.T) {
	for _, where := range []string{"/", "/d"} {
		for _, size := range []int{0, 4, 124, 127, 128, 129, 252, 256, 257, 380, 384, 508, 511, 512, 513, 516, 640, 641, 768, 1024} {
			base := newModel(240).with("/d/").with(spare...)
			base = base.stuffed(where, max(size, len(spelt(base.list(where)...))))
			for _, n := range []int{1, 2, 5, 24} {
				path := strings.TrimSuffix(where, "/") + "/" + strings.Repeat("y", n)
				wide, e := adding(t, base, path, api.InFile+n%2)
				if e != api.OK {
					t.Fatalf("Add to %d bytes of %s: %v", size, where, e)
				}
				wants := alloc.Free(base.img) - alloc.Free(wide.img)
				if _, e := adding(t, base.crammed(wants), path, api.InFile); e != api.OK {
					t.Errorf("Add to %d bytes of %s with %d free: %v", size, where, wants, e)
				}
				if wants > 0 {
					if _, e := adding(t, base.crammed(wants-1), path, api.InDir); e != api.ErrFull {
						t.Errorf("Add to %d bytes of %s with %d free: %v", size, where, wants-1, e)
					}
				}
				if back, e := removing(t, wide, path); e != api.OK || alloc.Free(back.img) != alloc.Free(base.img) {
					t.Errorf("Remove of %s: %d free, %v", path, alloc.Free(back.img), e)
				}
			}
		}
	}
}

// P6.5, P6.6: directories as full as an image lets them be: no inode is free any more, and none of what they hold goes lost.
func TestAddAll(t *testing.T) {
	for _, n := range []int{8, 40, 512} {
		m := newModel(n)
		name := func(k int) string { return fmt.Sprintf("/%024d", k*37%1000) }
		count := alloc.Inodes(m.img)
		e := api.OK
		for k := 1; k < count; k++ {
			if m, e = adding(t, m, name(k), api.InFile+k%2); e != api.OK {
				t.Fatalf("Add %d of %d: %v", k, count, e)
			}
		}
		telling(t, m)
		if _, e := adding(t, m, "/x", api.InFile); e != api.ErrFull {
			t.Errorf("Add to an image of %d blocks with no inode: %v", n, e)
		}
		if m, e = removing(t, m, name(2)); e != api.OK {
			t.Error(e)
		}
		if m, e = adding(t, m, "/x", api.InFile); e != api.OK {
			t.Error(e)
		}
		for _, path := range slices.Backward(m.paths()[1:]) {
			if m, e = removing(t, m, path); e != api.OK {
				t.Errorf("Remove(%q): %v", path, e)
			}
		}
		if free := alloc.Free(m.img); free != alloc.Free(newModel(n).img) {
			t.Errorf("%d blocks, all removed: %d free", n, free)
		}
	}
}

// P6.5: with room for the inode, but none for the entry: the inode that was made ahead is none.
func TestAddLate(t *testing.T) {
	m := newModel(48).with("/d/", "/file", "/d/y").stuffed("/", 128).crammed(0)
	for path, err := range map[string]api.Errno{"/x": api.ErrFull, "/d/x": api.OK, "/d/" + strings.Repeat("x", 24): api.OK} {
		if _, e := adding(t, m, path, api.InDir); e != err {
			t.Errorf("Add(%q): %v, not %v", path, e, err)
		}
	}
	out, i, e := dir.Add(m.img, "/x", api.InFile)
	if i != 0 || e != api.ErrFull || !slices.Equal(out, m.img) || !dir.Sound(out) {
		t.Errorf("Add: %d, %v", i, e)
	}
}

// P6.5: a directory as long as a file can be, which no sound image has inodes for.
func TestAddMaxFile(t *testing.T) {
	var l []api.Entry
	for k := range 322 {
		l = append(l, api.Entry{Name: fmt.Sprintf("%024d", k), Ino: 1})
	}
	text := spelt(l...) + one("aaaaaaa", 1)
	if len(text) != api.MaxFile {
		t.Fatalf("%d bytes", len(text))
	}
	full := laid(128, raw{api.InDir, text}, raw{api.InFile, ""})
	out, i, e := dir.Add(full, "/x", api.InFile)
	if i != 0 || e != api.ErrLong || !slices.Equal(out, full) {
		t.Errorf("Add to %d bytes: %d, %v", len(text), i, e)
	}
	out, e = dir.Rename(full, "/aaaaaaa", "/aaaaaaaa")
	if e != api.ErrLong || !slices.Equal(out, full) {
		t.Errorf("Rename within %d bytes: %v", len(text), e)
	}
	left := laid(128, raw{api.InDir, spelt(l...) + one("aaa", 1)}, raw{api.InFile, ""}) // four bytes less
	for path, err := range map[string]api.Errno{"/x": api.OK, "/xx": api.ErrLong} {
		if _, _, e := dir.Add(left, path, api.InFile); e != err {
			t.Errorf("Add(%q) to %d bytes: %v, not %v", path, api.MaxFile-4, e, err)
		}
	}
}

// P6.6: the errors, also where several hold at once, and what goes.
func TestRemove(t *testing.T) {
	m := stock()
	tests := []struct {
		path string
		e    api.Errno
	}{
		{"", api.ErrName}, {"/f/", api.ErrName}, {"//", api.ErrName}, {"/x/.", api.ErrName}, {"/f/..", api.ErrName},
		{"/1/2/3/4/5/6/7/8/9", api.ErrDeep}, {"/f/2/3/4/5/6/7/8/9", api.ErrDeep},
		{"/f/x", api.ErrKind}, {"/a/b/a", api.ErrKind}, {"/f/x/y", api.ErrKind},
		{"/x", api.ErrNone}, {"/gone", api.ErrNone}, {"/a/x", api.ErrNone}, {"/x/y", api.ErrNone}, {"/e/x", api.ErrNone}, {"/b", api.ErrNone},
		{"/", api.ErrName},
		{"/a", api.ErrBusy}, {"/a/c", api.ErrBusy}, {"/1", api.ErrBusy}, {"/1/2/3/4/5/6/7", api.ErrBusy}, {"/a/c/e", api.ErrBusy},
		{"/f", api.OK}, {"/a/b", api.OK}, {"/a/c/d", api.OK}, {"/e", api.OK}, {"/~", api.OK}, {"/ab", api.OK}, {"/a!", api.OK}, {"/1/2/3/4/5/6/7/8", api.OK}, {"/1/2/3/4/5/6/7/z", api.OK}, {"/a/c/e/x", api.OK},
	}
	for _, test := range tests {
		behind, e := removing(t, m, test.path)
		if e != test.e {
			t.Errorf("Remove(%q): %v, not %v", test.path, e, test.e)
		}
		if e == api.OK {
			telling(t, behind)
			if _, e := removing(t, behind, test.path); e != api.ErrNone {
				t.Errorf("Remove(%q) again: %v", test.path, e)
			}
		}
	}
	empty := newModel(8)
	if _, e := removing(t, empty, "/"); e != api.ErrName {
		t.Errorf("Remove of an empty root: %v", e)
	}
}

// P6.6: all of directories of many blocks, from the first, from the last, and from within.
func TestRemoveAll(t *testing.T) {
	for _, size := range []int{128, 129, 512, 513, 515, 700} {
		base := newModel(200).with("/d/").stuffed("/d", size)
		for _, from := range []int{0, 1, 2} {
			m, e := base, api.OK
			for l := m.list("/d"); len(l) > 0; l = m.list("/d") {
				name := l[[]int{0, len(l) - 1, len(l) / 2}[from]].Name
				if m, e = removing(t, m, "/d/"+name); e != api.OK {
					t.Fatalf("Remove(/d/%s): %v", name, e)
				}
			}
			if _, e := removing(t, m, "/d"); e != api.OK {
				t.Errorf("Remove(/d): %v", e)
			}
		}
	}
}

// P6.7: the errors, also where several hold at once.
func TestRenameErrors(t *testing.T) {
	m := stock()
	tests := []struct {
		from, to string
		e        api.Errno
	}{
		{"", "", api.ErrName}, {"/f/", "/x", api.ErrName}, {"//", "/", api.ErrName}, {"/f/.", "/", api.ErrName},
		{"/1/2/3/4/5/6/7/8/9", "/.", api.ErrDeep}, {"/f/2/3/4/5/6/7/8/9", "/x", api.ErrDeep},
		{"/f/x", "/.", api.ErrKind}, {"/f/x", "/f/x", api.ErrKind}, {"/a/b/a", "/", api.ErrKind},
		{"/x", "/x", api.ErrNone}, {"/x", "/x/y", api.ErrNone}, {"/x", "//", api.ErrNone}, {"/x", rising(9), api.ErrNone}, {"/a/x", "/", api.ErrNone}, {"/x/y", "/f", api.ErrNone},
		{"/", "/x", api.ErrName}, {"/", "/", api.ErrName}, {"/", "", api.ErrName}, {"/", rising(9), api.ErrName}, {"/", "/f/x", api.ErrName}, {"/", "/x/y", api.ErrName},
		{"/f", "/f", api.ErrName}, {"/a", "/a", api.ErrName}, {"/f", "/f/x", api.ErrName}, {"/a", "/a/x", api.ErrName}, {"/a", "/a/b", api.ErrName}, {"/a", "/a/b/x", api.ErrName}, {"/a", "/a/x/y", api.ErrName}, {"/a/c", "/a/c/d/e", api.ErrName}, {"/1", "/1/2/3/4/5/6/7/8", api.ErrName}, {"/e", "/e/e/e", api.ErrName},
		{"/f", "", api.ErrName}, {"/f", "f", api.ErrName}, {"/f", "/x/", api.ErrName}, {"/f", "/f/", api.ErrName}, {"/f", "//x", api.ErrName}, {"/f", "/x/../y", api.ErrName}, {"/1", rising(9) + "/", api.ErrName}, {"/f", "/" + strings.Repeat("x", 25), api.ErrName},
		{"/f", rising(9), api.ErrDeep}, {"/1", rising(9), api.ErrDeep}, {"/f", "/f/2/3/4/5/6/7/8/9", api.ErrDeep}, {"/f", "/x/2/3/4/5/6/7/8/9", api.ErrDeep}, {"/1/2/3/4/5/6/7/8", rising(9), api.ErrDeep},
		{"/f", "/", api.ErrHave}, {"/a", "/", api.ErrHave}, {"/a/b", "/", api.ErrHave}, {"/1/2/3/4/5/6/7/8", "/", api.ErrHave},
		{"/f", "/x/y", api.ErrNone}, {"/f", "/a/x/y", api.ErrNone}, {"/1", "/x/y", api.ErrNone}, {"/1", "/x/2/3/4/5/6/7/8", api.ErrNone},
		{"/f", "/ab/x", api.ErrKind}, {"/1", "/f/x", api.ErrKind}, {"/1", "/f/x/y", api.ErrKind}, {"/e", "/a/b/a", api.ErrKind}, {"/a", "/ab/x", api.ErrKind},
		{"/f", "/ab", api.ErrHave}, {"/f", "/a", api.ErrHave}, {"/f", "/a/b", api.ErrHave}, {"/a", "/f", api.ErrHave}, {"/a", "/e", api.ErrHave}, {"/a/c", "/a", api.ErrHave}, {"/a/b", "/a/c", api.ErrHave}, {"/1/2", "/1/2", api.ErrName}, {"/1/2/3", "/1/2", api.ErrHave}, {"/a/c", "/1/2/3/4/5/6/7/8", api.ErrHave}, {"/1", "/a/c/e", api.ErrHave},
		{"/1", "/a/x", api.ErrDeep}, {"/1", "/e/x", api.ErrDeep}, {"/1/2", "/a/c/x", api.ErrDeep}, {"/a", "/1/2/3/4/5/6/x", api.ErrDeep}, {"/a/c", "/1/2/3/4/5/6/7/x", api.ErrDeep}, {"/a/c/e", "/1/2/3/4/5/6/7/x", api.ErrDeep}, {"/1/2/3/4/5/6/7", "/1/2/3/4/5/6/x/y", api.ErrNone},
		{"/1", "/x", api.OK}, {"/1/2", "/e/x", api.OK}, {"/1/2", "/x", api.OK}, {"/a", "/1/2/3/4/x", api.OK}, {"/a", "/1/2/3/4/5/x", api.ErrDeep}, {"/a/c/e", "/1/2/3/4/5/6/x", api.OK}, {"/e", "/1/2/3/4/5/6/7/x", api.OK}, {"/f", "/1/2/3/4/5/6/7/x", api.OK}, {"/1/2/3/4/5/6/7/8", "/1/2/3/4/5/6/7/9", api.OK},
		{"/f", "/x", api.OK}, {"/f", "/A", api.OK}, {"/f", "/fx", api.OK}, {"/fx", "/f", api.ErrNone}, {"/a", "/ax", api.OK}, {"/a", "/a!/x", api.ErrKind}, {"/a", "/~/a", api.OK}, {"/ab", "/a/ab", api.OK}, {"/a/b", "/b", api.OK}, {"/a/c", "/c", api.OK}, {"/a/c/d", "/a/d", api.OK}, {"/e", "/a/c/e/e", api.OK}, {"/a/c", "/1/2/c", api.OK}, {"/f", "/" + strings.Repeat("f", 24), api.OK},
	}
	for _, test := range tests {
		behind, e := renaming(t, m, test.from, test.to)
		if e != test.e {
			t.Errorf("Rename(%q, %q): %v, not %v", test.from, test.to, e, test.e)
		}
		if e == api.OK {
			telling(t, behind)
		}
	}
}

// P6.7, P6.9: all that there is to all places that there are and can be, and back again.
func TestRenameBack(t *testing.T) {
	m := stock()
	places := []string{"", "/", "/x", "/x/y", "/a/x/", "/0", "/~~", rising(9)}
	for _, path := range m.paths()[1:] {
		places = append(places, path, path+"/x", path+"x", path[:len(path)-1]+"0")
	}
	for _, from := range m.paths() {
		for _, to := range places {
			behind, e := renaming(t, m, from, to)
			if e != api.OK {
				continue
			}
			back, e := renaming(t, behind, to, from)
			if e != api.OK || !maps.Equal(back.ino, m.ino) {
				t.Errorf("Rename(%q, %q) and back: %v", from, to, e)
			}
			for _, path := range m.paths() {
				was, _ := inode.Read(m.img, m.ino[path])
				if s, e := inode.Read(back.img, m.ino[path]); s != was || e != api.OK {
					t.Errorf("Rename(%q, %q) and back: %q holds %q, %v", from, to, path, s, e)
				}
			}
		}
	}
}

// P6.7: something below too deep: of the deepest and of the others, wherever they stand.
func TestRenameDeep(t *testing.T) {
	for high := range 8 { // how many names deep it goes below
		for at := 1; at+high <= 8 && at <= 4; at++ {
			m := newModel(160).with("/a/", "/A/", "/z/", "/b1", "/b2/", "/b2/b3").with("/t/", "/t/t/", "/t/t/t/", "/t/t/t/t/", "/t/t/t/t/t/", "/t/t/t/t/t/t/", "/t/t/t/t/t/t/t/")
			from := strings.Repeat("/A", at)
			if at > 1 {
				for k := 2; k < at; k++ {
					m = m.with(strings.Repeat("/A", k) + "/")
				}
				m = m.with(from + "/")
			}
			path := from
			for k := range high {
				m = m.with(path+"/a/", path+"/k", path+"/z/")
				path += []string{"/a", "/z"}[k%2]
			}
			for deep := 1; deep <= 8; deep++ {
				to := strings.Repeat("/t", deep-1) + "/x"
				_, e := renaming(t, m, from, to)
				if (e == api.ErrDeep) != (deep+high > 8) {
					t.Errorf("Rename(%q, %q), with %d below: %v", from, to, high, e)
				}
			}
		}
	}
}

// P6.7: where there is no room for the entry, and where there just is, since it goes ahead of coming.
func TestRenameFull(t *testing.T) {
	pair := func(a, b int) model { // two directories with so many bytes
		return newModel(240).with("/a/", "/b/", "/a/x", "/a/y", "/file").with(spare...).stuffed("/a", a).stuffed("/b", b)
	}
	free, tight, wide, wider := pair(130, 12), pair(128, 128), pair(512, 128), pair(515, 512)
	tests := []struct {
		m        model
		left     int
		from, to string
		e        api.Errno
	}{
		{free, 0, "/a/x", "/b/x", api.OK}, // the other one has room
		{free, 0, "/a/x", "/b/" + strings.Repeat("x", 24), api.OK},
		{free, 0, "/a/x", "/a/" + strings.Repeat("x", 24), api.OK}, // its block goes and comes
		{free, 0, "/b/000000000", "/file2", api.OK},
		{tight, 0, "/a/x", "/b/x", api.ErrFull},
		{tight, 1, "/a/x", "/b/x", api.OK},
		{tight, 0, "/a/x", "/a/z", api.OK},
		{tight, 0, "/a/x", "/a/zz", api.ErrFull},
		{tight, 1, "/a/x", "/a/zz", api.OK},
		{tight, 0, "/file", "/b/f", api.ErrFull},
		{tight, 0, "/b", "/a/b", api.ErrFull},
		{tight, 0, "/a", "/aa", api.OK},
		{wide, 0, "/a/x", "/a/xx", api.ErrFull},
		{wide, 1, "/a/x", "/a/xx", api.ErrFull}, // the indirect block, too
		{wide, 2, "/a/x", "/a/xx", api.OK},
		{wide, 0, "/a/x", "/b/x", api.ErrFull},
		{wide, 0, "/a/x", "/w", api.OK},
		{wider, 0, "/a/x", "/a/" + strings.Repeat("x", 24), api.OK}, // both go and come
		{wider, 0, "/a/x", "/b/x", api.OK},                          // both go to the other one
		{wider, 0, "/file", "/b/x", api.ErrFull},
		{wider, 1, "/file", "/b/x", api.ErrFull},
		{wider, 2, "/file", "/b/x", api.OK},
	}
	for k, test := range tests {
		m := test.m.crammed(test.left)
		behind, e := renaming(t, m, test.from, test.to)
		if e != test.e {
			t.Errorf("%d: Rename(%q, %q) with %d free: %v, not %v", k, test.from, test.to, test.left, e, test.e)
		}
		if e == api.OK {
			telling(t, behind)
			if back, e := renaming(t, behind, test.to, test.from); e != api.OK || !maps.Equal(back.ino, m.ino) {
				t.Errorf("%d: Rename back: %v", k, e)
			}
		}
	}
	one := newModel(240).with("/a/", "/b/", "/a/x").with(spare...).stuffed("/b", 128) // what is alone gives its block to the other one
	if _, e := renaming(t, one.crammed(0), "/a/x", "/b/x"); e != api.OK {
		t.Errorf("Rename of what is alone: %v", e)
	}
}

// raw is an inode: its kind and its bytes.
type raw struct {
	kind int
	data string
}

// laid is an image that is sound but for what its directories hold.
func laid(n int, l ...raw) []string {
	img, _ := alloc.Make(n)
	for _, r := range l {
		img, _, _ = inode.New(img, max(r.kind, api.InFile))
	}
	for i, r := range l {
		if r.kind == api.InFree {
			img, _ = inode.Drop(img, i)
		} else {
			img, _ = inode.Write(img, i, 0, r.data)
		}
	}
	return img
}

// isSound is the same as Sound, of images for which inode.Sound holds: gone through path by path.
func isSound(img []string) bool {
	met := make([]int, alloc.Inodes(img))
	var walk func(i, deep int) bool
	walk = func(i, deep int) bool {
		in, e := inode.Get(img, i)
		if e != api.OK || in.Kind == api.InFree || deep > 8 || met[i] > 0 || deep == 0 && in.Kind != api.InDir {
			return false
		}
		met[i]++
		s, _ := inode.Read(img, i)
		for was := ""; in.Kind == api.InDir && s != ""; {
			n := int(s[0])
			if len(s) < n+3 || n == 0 || s[1:n+1] <= was || parts("/"+s[1:n+1]) != api.OK || strings.Contains(s[1:n+1], "/") {
				return false
			}
			if !walk(int(s[n+1])*256+int(s[n+2]), deep+1) {
				return false
			}
			was, s = s[1:n+1], s[n+3:]
		}
		return true
	}
	if !walk(0, 0) {
		return false
	}
	for i := range met {
		if in, _ := inode.Get(img, i); in.Kind != api.InFree && met[i] == 0 {
			return false
		}
	}
	return true
}

// sounding asks for what Sound tells.
func sounding(t *testing.T, what string, img []string, is bool) {
	t.Helper()
	in := roomy(img)
	if dir.Sound(in) != is {
		t.Errorf("Sound of %s: %v", what, !is)
	}
	if inode.Sound(img) && isSound(img) != is {
		t.Errorf("the test's own of %s: %v", what, !is)
	}
	kept(t, what, in, img)
}

// root is an image of 64 blocks whose root holds bytes, with a file 1, a directory 2 with a file 3 in it, and a free inode 4.
func root(text string, more ...raw) []string {
	l := []raw{{api.InDir, text}, {api.InFile, "file"}, {api.InDir, one("x", 3)}, {api.InFile, one("y", 1)}, {}}
	return laid(64, append(l, more...)...)
}

// P6.1: images that are wrong in one part, and some that are not.
func TestSound(t *testing.T) {
	long := strings.Repeat("n", 24)
	a, b := one("a", 1), one("b", 2)
	empty := raw{api.InDir, ""}
	file := raw{api.InFile, ""}
	loop := func(n int, ino int) raw { return raw{api.InDir, one(strings.Repeat("l", n), ino)} }
	tests := []struct {
		what string
		img  []string
		is   bool
	}{
		{"a sound one", root(a + b), true},
		{"the names the other way round", root(one("a", 2) + one("b", 1)), true},
		{"names of 1 and 24 bytes", root(one("!", 1) + one(long, 2)), true},
		{"one name that is another's beginning", root(one("a", 1) + one("aa", 2)), true},
		{"only an empty root", laid(8, empty), true},
		{"a root with an empty directory", laid(8, raw{api.InDir, one("a", 1)}, empty), true},
		{"a free inode among the others", laid(8, raw{api.InDir, one("a", 2)}, raw{}, file), true},
		{"a file that holds what no directory may", laid(8, raw{api.InDir, one("a", 1)}, raw{api.InFile, "\x00\xff" + one("a", 1)}), true},

		{"no blocks", nil, false},
		{"an empty image of alloc's", laid(16), false},
		{"the inode 0 free", laid(16, raw{}, file), false},
		{"the inode 0 free, a directory behind", laid(16, raw{}, empty), false},
		{"the inode 0 free, a directory behind that names itself", laid(16, raw{}, raw{api.InDir, one("a", 1)}), false},
		{"the inode 0 a file", laid(16, file), false},
		{"the inode 0 a file that holds an entry", laid(16, raw{api.InFile, one("a", 1)}, file), false},
		{"the inode 0 a file, all else as it was", laid(16, raw{api.InFile, one("a", 1)}, raw{api.InDir, one("b", 2)}, file), false},

		{"an entry without its number", root(a + "\x01b"), false},
		{"an entry with half a number", root(a + "\x01b\x00"), false},
		{"an entry without its name", root(a + "\x01"), false},
		{"an entry with a part of its name", root(a + "\x05bb"), false},
		{"an entry cut off ahead of all", root(a + b + "\x05"), false},
		{"a byte behind", root(a + b + "\x00"), false},
		{"zeros behind", root(a + b + "\x00\x00\x00"), false},
		{"zeros up to the block's end behind", root(a + b + strings.Repeat("\x00", 120)), false},
		{"a byte ahead", root("\x00" + a + b), false},
		{"only a byte", laid(16, raw{api.InDir, "\x00"}), false},
		{"only an entry without a name", laid(16, raw{api.InDir, "\x00\x00\x01"}, file), false},
		{"an entry without a name ahead", root("\x00\x00\x01" + b), false},
		{"an entry without a name behind", root(b + "\x00\x00\x01"), false},
		{"a name of 25 bytes", root(a + one(strings.Repeat("n", 25), 2)), false},
		{"a name of 25 bytes ahead", root(one(strings.Repeat("a", 25), 1) + b), false},
		{"a name of 128 bytes", root(a + "\x80" + strings.Repeat("n", 128) + "\x00\x02"), false},
		{"a name of 255 bytes", root(a + "\xff" + strings.Repeat("n", 255) + "\x00\x02"), false},
		{"a name .", root(one(".", 1) + b), false},
		{"a name ..", root(one("..", 1) + b), false},
		{"a name ...", root(one("...", 1) + b), true},
		{"a name with /", root(one("a/a", 1) + b), false},
		{"a name /", root(one("/", 1) + b), false},
		{"a name with a blank", root(one("a a", 1) + b), false},
		{"a name of a blank", root(one(" ", 1) + b), false},
		{"a name with a zero", root(one("a\x00", 1) + b), false},
		{"a name of the byte 127", root(a + one("\x7f", 2)), false},
		{"a name of the byte 126", root(a + one("~", 2)), true},
		{"a name of bytes above 127", root(a + one("\xff\xfe", 2)), false},
		{"names that fall", root(b + a), false},
		{"names that fall by length", root(one("aa", 1) + one("a", 2)), false},
		{"names that fall behind some", root(a+b+one("ab", 5), file), false},
		{"names that rise behind some", root(a+one("ab", 5)+b, file), true},
		{"names that fall as bytes", root(one("a", 1) + one("B", 2)), false},
		{"a name twice", root(a + one("a", 2)), false},
		{"a name twice, further on", root(a+b+one("a", 5), file), false},
		{"an entry twice", root(a + a + b), false},

		{"an entry of a free inode", root(a + b + one("c", 4)), false},
		{"an entry of the next free inode", root(a + b + one("c", 5)), false},
		{"an entry of the last inode, free", root(a + b + one("c", 15)), false},
		{"an entry of no inode", root(a + b + one("c", 16)), false},
		{"an entry of no inode, 255", root(a + b + one("c", 255)), false},
		{"an entry of no inode, 256", root(a + b + one("c", 256)), false},
		{"an entry of no inode, 257", root(b + one("c", 257)), false},
		{"an entry of no inode, 65535", root(a + b + one("c", 65535)), false},
		{"an entry of the inode 0", root(a + b + one("c", 0)), false},
		{"an entry of the inode 0 alone", laid(16, raw{api.InDir, one("a", 0)}), false},
		{"an entry of the inode 0 below", laid(16, raw{api.InDir, one("a", 1)}, raw{api.InDir, one("b", 0)}), false},
		{"an inode without an entry", root(b), false},
		{"an empty directory without an entry", root(a+b, empty), false},
		{"a file without an entry", root(a+b, file), false},
		{"a directory without an entry", root(a), false},
		{"an inode with two entries", root(a + b + one("c", 1)), false},
		{"an inode with two entries, in two directories", root(a + b + one("c", 3)), false},
		{"a directory with two entries", root(a + b + one("c", 2)), false},
		{"an inode with two entries, one of a directory that is not reached", root(a+b, raw{api.InDir, one("q", 1)}), false},
		{"a directory that holds itself", root(a+b, loop(1, 5)), false},
		{"two directories that hold each other", root(a+b, loop(1, 6), loop(1, 5)), false},
		{"three directories in a circle, with a file", root(a+b, loop(1, 6), loop(1, 7), raw{api.InDir, one("a", 5) + one("f", 8)}, file), false},
		{"a directory that holds itself and is named", root(a+b+one("c", 5), loop(1, 5)), false},
		{"a directory not reached that is none", root(a+b, raw{api.InDir, "\x01"}), false},
		{"a wrong entry below", root(a+b+one("c", 5), raw{api.InDir, "\x00"}), false},
		{"an empty directory below", root(a+b+one("c", 5), empty), true},
		{"a file below that holds a byte", root(a+b+one("c", 5), raw{api.InFile, "\x00"}), true},
	}
	for _, test := range tests {
		sounding(t, test.what, test.img, test.is)
	}
}

// P6.1: how deep directories and files may lie, wherever the others stand.
func TestSoundDeep(t *testing.T) {
	for n := 1; n <= 12; n++ {
		for _, last := range []int{api.InFile, api.InDir} {
			l := []raw{}
			for k := range n {
				l = append(l, raw{api.InDir, one("d", k+1)})
			}
			sounding(t, fmt.Sprint(n, " names"), laid(64, append(l, raw{last, ""})...), n <= 8)
		}
		l := []raw{{api.InDir, one("a", n+1) + one("d", 1) + one("e", n+2)}} // the deep one between others, its inodes falling
		for k := 1; k < n; k++ {
			l = append(l, raw{api.InDir, one("d", k+1)})
		}
		l = append(l, raw{api.InFile, "x"}, raw{api.InDir, ""}, raw{api.InDir, ""})
		sounding(t, fmt.Sprint(n, " names between others"), laid(64, l...), n <= 8)
	}
}

// P6.1: each byte of directories another one.
func TestSoundBytes(t *testing.T) {
	base := []raw{{api.InDir, one("a", 2) + one("ab", 4) + one("d", 3)}, {}, {api.InFile, one("f", 1)}, {api.InDir, one("!", 5) + one("~~", 6)}, {api.InDir, ""}, {api.InDir, one("g", 7)}, {api.InFile, ""}, {api.InFile, ""}}
	sounding(t, "the base", laid(32, base...), true)
	for i, r := range base {
		for at := range len(r.data) {
			for b := range 256 {
				l := slices.Clone(base)
				l[i].data = r.data[:at] + string([]byte{byte(b)}) + r.data[at+1:]
				img := laid(32, l...)
				if is := isSound(img); dir.Sound(img) != is {
					t.Errorf("Sound with the byte %d of %d being %d: %v", at, i, b, !is)
				}
			}
			l := slices.Clone(base)
			for _, text := range []string{r.data[:at], r.data[at:], r.data[:at] + r.data[at+1:], r.data[:at] + "\x00" + r.data[at:]} {
				l[i].data = text
				img := laid(32, l...)
				if is := isSound(img); dir.Sound(img) != is {
					t.Errorf("Sound with %q in %d: %v", text, i, !is)
				}
			}
		}
		for _, kind := range []int{api.InFree, api.InFile, api.InDir} {
			l := slices.Clone(base)
			l[i].kind = kind
			img := laid(32, l...)
			if is := isSound(img); dir.Sound(img) != is {
				t.Errorf("Sound with %d of kind %d: %v", i, kind, !is)
			}
		}
	}
}

// P6.1: all images of few inodes whose directories hold up to two entries.
func TestSoundAll(t *testing.T) {
	var datas []raw
	for _, kind := range []int{api.InFree, api.InFile} {
		datas = append(datas, raw{kind, ""})
	}
	datas = append(datas, raw{api.InDir, ""})
	for i := range 5 {
		datas = append(datas, raw{api.InDir, one("a", i)})
		for j := range 5 {
			datas = append(datas, raw{api.InDir, one("a", i) + one("b", j)})
		}
	}
	n := 0
	for _, a := range datas[2:] {
		for _, b := range datas {
			for _, c := range datas {
				img := laid(8, a, b, c)
				is := isSound(img)
				if dir.Sound(img) != is {
					t.Fatalf("Sound of %v: %v", []raw{a, b, c}, !is)
				}
				if is {
					n++
				}
			}
		}
	}
	if n == 0 {
		t.Error("none is sound")
	}
}

// P6.1: images that are none, or whose inodes are not sound.
func TestSoundNone(t *testing.T) {
	good := root(one("a", 1) + one("b", 2))
	block := strings.Repeat("\x00", api.BlockSize)
	set := func(at, from int, s string) []string {
		img := slices.Clone(good)
		img[at] = img[at][:from] + s + img[at][from+len(s):]
		return img
	}
	tests := map[string][]string{
		"nil":                             nil,
		"no blocks":                       {},
		"zeros":                           slices.Repeat([]string{block}, 64),
		"a block less":                    good[:63],
		"a block more":                    append(slices.Clone(good), block),
		"another mark":                    set(0, 0, "X"),
		"another count":                   set(0, 5, "\x3f"),
		"a taken block that is not named": set(1, 7, "\x80"),
		"a block that is not taken":       set(1, 0, "\x3f"),
		"a root of kind 3":                set(2, 0, "\x03"),
		"a root of kind 0":                set(2, 0, "\x00"),
		"a root of another size":          set(2, 4, "\x09"),
		"a free inode with a size":        set(3, 4, "\x01"),
		"a file of kind 255":              set(2, 32, "\xff"),
	}
	for what, img := range tests {
		sounding(t, what, img, false)
	}
	for at := range good {
		img := slices.Clone(good)
		img[at] = img[at][:127]
		sounding(t, fmt.Sprint("the block ", at, " too short"), img, false)
	}
}

// P6.8, P6.9: long rows of calls on one image.
func TestRows(t *testing.T) {
	for seed := range uint64(12) {
		r := rand.New(rand.NewPCG(68, seed))
		m := newModel([]int{8, 16, 24, 40, 64, 100, 160, 256, 400, 512, 33, 80}[seed])
		errs := map[api.Errno]int{}
		for k := range 300 {
			e := api.OK
			switch r.IntN(8) {
			case 0, 1, 2, 3:
				m, e = adding(t, m, anyPath(r, m), []int{1, 2, 2, r.IntN(5)}[r.IntN(4)])
			case 4:
				m, e = removing(t, m, anyPath(r, m))
			case 5:
				if path := anyPath(r, m); m.find(path) == api.OK && m.kind(path) == api.InFile {
					if img, e := inode.Write(m.img, m.ino[path], r.IntN(300), strings.Repeat("w", r.IntN(200))); e == api.OK {
						m.img = img
					}
				}
			default:
				m, e = renaming(t, m, anyPath(r, m), anyPath(r, m))
			}
			errs[e]++
			if k%50 == 49 {
				telling(t, m)
			}
		}
		if seed > 3 && (errs[api.OK] < 50 || len(errs) < 5) {
			t.Errorf("seed %d: %v", seed, errs)
		}
	}
}

// anyPath is a path that is there, or near one, or now and then none.
func anyPath(r *rand.Rand, m model) string {
	all := m.paths()
	path := all[r.IntN(len(all))]
	near := strings.TrimSuffix(path, "/")
	switch r.IntN(12) {
	case 0, 1, 2, 3:
		return path
	case 4:
		return near + "/"
	case 5:
		return near + "/" + strings.Repeat("long", 1+r.IntN(6))
	case 6:
		return near + string("/. ~\x7f"[r.IntN(5)])
	}
	return near + "/" + string("abcdefgh"[r.IntN(8)]) + strings.Repeat("n", r.IntN(20)*r.IntN(2))
}

// 0.1: images that are none, or not sound, directories in circles and directories that hold themselves many times among them.
func TestUnsound(t *testing.T) {
	all(nil)
	all([]string{""})
	block := strings.Repeat("\x00", api.BlockSize)
	for _, n := range []int{1, 2, 3, 7, 8, 64, 600} {
		for _, s := range []string{"", "a", block, block[1:], strings.Repeat("\xff", api.BlockSize), strings.Repeat("\x02", api.BlockSize)} {
			all(slices.Repeat([]string{s}, n))
		}
	}
	circle := ""
	for k := range 322 {
		circle += one(fmt.Sprintf("%024d", k), k%4)
	}
	all(laid(400, raw{api.InDir, one("a", 1) + one("b", 2)}, raw{api.InDir, circle}, raw{api.InDir, circle}, raw{api.InDir, circle}))
	all(laid(400, raw{api.InDir, circle + one("a", 65535)}, raw{api.InDir, circle}, raw{api.InDir, circle}, raw{api.InDir, circle}))
	all(laid(64, raw{api.InDir, one("a", 0)}))
	all(laid(64, raw{api.InDir, one("a", 0) + one("b", 1)}, raw{api.InDir, one("a", 0)}))
	all(laid(64, raw{api.InDir, one("a", 9) + one("b", 400)}))
	all(laid(64, raw{api.InFile, one("a", 1)}, raw{api.InDir, ""}))
	r := rand.New(rand.NewPCG(1, 6))
	for range 300 {
		img := stock().img
		for range 1 + r.IntN(6) {
			at, from := r.IntN(len(img)), r.IntN(api.BlockSize)
			img[at] = img[at][:from] + string([]byte{byte(r.IntN(40))}) + img[at][from+1:]
		}
		all(img)
	}
}

// all does every call on an image.
func all(img []string) {
	paths := []string{"", "/", "/a", "/b", "/a/a", "/a/b", "/x", "/f", "/e/x", "/1", "/1/2/3", rising(8), rising(9), strings.Repeat("/a", 7), "/000000000000000000000001"}
	dir.Sound(img)
	for _, path := range paths {
		dir.Find(img, path)
		dir.List(img, path)
		dir.Add(img, path, api.InFile)
		dir.Add(img, path, api.InDir)
		dir.Remove(img, path)
		for _, to := range paths {
			dir.Rename(img, path, to)
		}
	}
}

// The chapter's example.
func TestExample(t *testing.T) {
	img, e := dir.Make(16)
	if e != api.OK {
		t.Errorf("Make: %v", e)
	}
	img, i, e := dir.Add(img, "/a", api.InDir)
	if i != 1 || e != api.OK {
		t.Errorf("Add(/a): %d, %v", i, e)
	}
	img, i, e = dir.Add(img, "/a/b", api.InFile)
	if i != 2 || e != api.OK {
		t.Errorf("Add(/a/b): %d, %v", i, e)
	}
	if l, e := dir.List(img, "/"); e != api.OK || !slices.Equal(l, []api.Entry{{Name: "a", Ino: 1, Kind: api.InDir}}) {
		t.Errorf("List: %v, %v", l, e)
	}
	if _, e = dir.Remove(img, "/a"); e != api.ErrBusy {
		t.Errorf("Remove(/a): %v", e)
	}
	if img, e = dir.Rename(img, "/a/b", "/c"); e != api.OK {
		t.Errorf("Rename: %v", e)
	}
	if img, e = dir.Remove(img, "/a"); e != api.OK {
		t.Errorf("Remove(/a): %v", e)
	}
	if l, e := dir.List(img, "/"); e != api.OK || !slices.Equal(l, []api.Entry{{Name: "c", Ino: 2, Kind: api.InFile}}) || !dir.Sound(img) {
		t.Errorf("List: %v, %v", l, e)
	}
}

// What lies where, written out.
func TestBytes(t *testing.T) {
	img, _ := dir.Make(16)
	img, _, _ = dir.Add(img, "/b", api.InFile)
	img, _, _ = dir.Add(img, "/ab", api.InDir)
	if s := img[3]; s != "\x02ab\x00\x02\x01b\x00\x01"+strings.Repeat("\x00", 119) {
		t.Errorf("the root: %q", s)
	}
	img, _ = dir.Rename(img, "/b", "/ab/c")
	if s := img[3]; s != "\x02ab\x00\x02"+strings.Repeat("\x00", 123) {
		t.Errorf("the root: %q", s)
	}
	if s := img[4]; s != "\x01c\x00\x01"+strings.Repeat("\x00", 124) {
		t.Errorf("/ab: %q", s)
	}
	img, _ = dir.Remove(img, "/ab/c") // the block goes, and holds what it did: nothing was written anew
	if s := img[4]; s != "\x01c\x00\x01"+strings.Repeat("\x00", 124) || alloc.Taken(img, 4) {
		t.Errorf("/ab: %q", s)
	}
}
