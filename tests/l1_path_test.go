package tests

import (
	"regexp"
	"slices"
	"strings"
	"testing"
	"unsafe"

	"loop.example/cellarage/impl"
)

// Names that are easily taken for one another: each begins with, or ends as, some other one.
var closeNames = []string{"a", "ab", "abc", "abcd", "b", "z", "zzzz"}

// The document's words on the text of a way, told by another means than the program's.
var wayText = regexp.MustCompile(`\A(/|(/[a-z]{1,4}){1,5})\z`)

// waysUpTo is all lists of at most most of these names.
func waysUpTo(names []string, most int) [][]string {
	all := [][]string{{}}
	last := all
	for range most {
		var next [][]string
		for _, way := range last {
			for _, name := range names {
				next = append(next, append(slices.Clone(way), name))
			}
		}
		all = append(all, next...)
		last = next
	}
	return all
}

// textsUpTo calls f with each text of at most most of these signs.
func textsUpTo(signs string, most int, f func(text string)) {
	var grow func(text []byte)
	grow = func(text []byte) {
		f(string(text))
		if len(text) == most {
			return
		}
		for i := range len(signs) {
			grow(append(slices.Clone(text), signs[i]))
		}
	}
	grow(nil)
}

// wantRead asks that a text is read as that way, and that its text is this one.
func wantRead(t *testing.T, text string, want []string) {
	t.Helper()
	got, ok := impl.PathRead(text)
	if !ok || !slices.Equal(got, want) {
		t.Errorf("PathRead(%q) = %q, %v; want %q, true", text, got, ok, want)
	}
	if back := impl.PathText(want); back != text {
		t.Errorf("PathText(%q) = %q; want %q", want, back, text)
	}
}

// wantNoRead asks that a text is the text of no way.
func wantNoRead(t *testing.T, text string) {
	t.Helper()
	if got, ok := impl.PathRead(text); ok || len(got) != 0 {
		t.Errorf("PathRead(%q) = %q, %v; want nothing, false", text, got, ok)
	}
}

// wantNoWay asks that a list is no way, and that it has no text.
func wantNoWay(t *testing.T, p []string) {
	t.Helper()
	if impl.PathOk(p) {
		t.Errorf("PathOk(%q) = true; want false", p)
	}
	if got := impl.PathText(p); got != "" {
		t.Errorf("PathText(%q) = %q; want the empty text", p, got)
	}
}

func TestPathBounds(t *testing.T) {
	if impl.NameMax != 4 || impl.PathLong != 5 {
		t.Errorf("NameMax, PathLong = %d, %d; want 4, 5", impl.NameMax, impl.PathLong)
	}
}

func TestNameOk(t *testing.T) {
	for _, s := range []string{"a", "z", "m", "ab", "abc", "abcd", "zzzz", "home"} {
		if !impl.NameOk(s) {
			t.Errorf("NameOk(%q) = false; want true", s)
		}
	}
	wrong := []string{
		"", "abcde", "zzzzz", strings.Repeat("a", 1000),
		"/", "/a", "a/", "a/b", " ", " a", "a ", "a b", "a\n", "a\x00", ".", "..",
		"A", "aB", "a1", "a-b", "a_b", "a=b", "'a'", "`", "{",
		"\u00e9", "a\u00e9", "\u0430", "\uff41", "\xff", "a\x80",
	}
	for _, s := range wrong {
		if impl.NameOk(s) {
			t.Errorf("NameOk(%q) = true; want false", s)
		}
	}
}

func TestNameOkEverySignAtEveryPlace(t *testing.T) {
	for size := 1; size <= 5; size++ {
		for place := range size {
			for sign := range 256 {
				name := []byte(strings.Repeat("m", size))
				name[place] = byte(sign)
				want := size <= 4 && 'a' <= sign && sign <= 'z'
				if got := impl.NameOk(string(name)); got != want {
					t.Errorf("NameOk(%q) = %v; want %v", name, got, want)
				}
				got, ok := impl.PathRead("/x/" + string(name))
				// A slash makes two names of one; they are names if neither is empty.
				wantWay := want || sign == '/' && 0 < place && place < size-1
				if ok != wantWay || !ok && len(got) != 0 {
					t.Errorf("PathRead(%q) = %q, %v; want %v", "/x/"+string(name), got, ok, wantWay)
				}
			}
		}
	}
}

func TestPathOrdinary(t *testing.T) {
	wantRead(t, "/a", []string{"a"})
	wantRead(t, "/home", []string{"home"})
	wantRead(t, "/home/a/b", []string{"home", "a", "b"})
	wantRead(t, "/b/a/home", []string{"b", "a", "home"})
	wantRead(t, "/a/a/a", []string{"a", "a", "a"})
	wantRead(t, "/a/ab/abc/abcd", []string{"a", "ab", "abc", "abcd"})
}

func TestPathRoot(t *testing.T) {
	wantRead(t, "/", nil)
	wantRead(t, "/", []string{})
	if !impl.PathOk(nil) || !impl.PathOk([]string{}) {
		t.Error("the way of no names is none")
	}
	wantNoRead(t, "")
	wantNoRead(t, "//")
	wantNoWay(t, []string{""})
}

func TestPathEdges(t *testing.T) {
	five := []string{"abcd", "b", "cdef", "d", "wxyz"}
	if !impl.PathOk(five) {
		t.Errorf("PathOk(%q) = false; want true", five)
	}
	wantRead(t, "/abcd/b/cdef/d/wxyz", five)
	wantRead(t, "/zzzz/zzzz/zzzz/zzzz/zzzz", slices.Repeat([]string{"zzzz"}, 5))
	wantNoWay(t, slices.Repeat([]string{"a"}, 6))
	wantNoWay(t, append(slices.Clone(five), ""))
	wantNoRead(t, "/a/b/c/d/e/f")
	wantNoRead(t, "/a/b/c/d/e/")
	for place := range 5 {
		for _, wrong := range []string{"", "abcde", "A", "a/b", "/", " "} {
			p := slices.Clone(five)
			p[place] = wrong
			wantNoWay(t, p)
		}
		for _, wrong := range []string{"", "abcde", "A", "a//b", "/", " "} {
			p := slices.Clone(five)
			p[place] = wrong
			wantNoRead(t, "/"+strings.Join(p, "/"))
		}
	}
}

func TestPathReadWrongTexts(t *testing.T) {
	wrong := []string{
		"a", "abc", "a/b", "a/", "/a/", "/a/b/", "//a", "/a//b", "/a//", "///",
		"/A", "/aB", "/a1", "/abcde", "/a/abcde", "/abcde/a",
		" /a", "/a ", "/ a", "/a b", "/a\n", "\n/a", "/ ", " /", "/\n", "/\x00", "\x00",
		"/.", "/..", "/a/.", "./a", "\\a", "/a\\b",
		"/\u00e9", "/\u0430", "/\uff41", "/\xff", "\xff", "/a/\x80",
	}
	for _, text := range wrong {
		wantNoRead(t, text)
	}
}

func TestPathHugeInputs(t *testing.T) {
	for _, piece := range []string{"/", "a", "/a", "/abcd", "a/", "\xff"} {
		wantNoRead(t, strings.Repeat(piece, 1<<20))
		wantNoRead(t, "/"+strings.Repeat(piece, 1<<20))
	}
	wantNoWay(t, slices.Repeat([]string{"a"}, 1<<16))
	wantNoWay(t, []string{strings.Repeat("a", 1<<20)})
}

func TestPathReadBackAsItWas(t *testing.T) {
	seen := map[string]bool{}
	for _, way := range waysUpTo(closeNames, 5) {
		if !impl.PathOk(way) {
			t.Fatalf("PathOk(%q) = false; want true", way)
		}
		text := impl.PathText(way)
		if want := "/" + strings.Join(way, "/"); text != want {
			t.Fatalf("PathText(%q) = %q; want %q", way, text, want)
		}
		if seen[text] {
			t.Fatalf("%q is the text of two ways", text)
		}
		seen[text] = true
		if got, ok := impl.PathRead(text); !ok || !slices.Equal(got, way) {
			t.Fatalf("PathRead(%q) = %q, %v; want %q, true", text, got, ok, way)
		}
	}
}

func TestPathReadEveryShortText(t *testing.T) {
	check := func(text string) {
		got, ok := impl.PathRead(text)
		if want := wayText.MatchString(text); ok != want {
			t.Fatalf("PathRead(%q) = %q, %v; want %v", text, got, ok, want)
		}
		if ok && impl.PathText(got) != text {
			t.Fatalf("PathRead(%q) = %q, whose text is %q", text, got, impl.PathText(got))
		}
		if !ok && len(got) != 0 {
			t.Fatalf("PathRead(%q) = %q beside a false", text, got)
		}
	}
	textsUpTo("/a", 13, check)
	textsUpTo("/az`{A \x00\xff", 5, check)
}

func TestPathIn(t *testing.T) {
	cases := []struct {
		p, head string
		want    bool
	}{
		{"/", "/", true},
		{"/a", "/", true},
		{"/a/b/c/d/e", "/", true},
		{"/", "/a", false},
		{"/a", "/a", true},
		{"/a/b", "/a", true},
		{"/a", "/a/b", false},
		{"/a/b/c", "/a/b", true},
		{"/a/b/c/d/e", "/a/b/c/d/e", true},
		{"/a/b/c/d/e", "/a/b/c/d", true},
		{"/a/b/c/d/e", "/a/b/c/d/x", false},
		{"/ab", "/a", false},
		{"/a", "/ab", false},
		{"/ab/c", "/a", false},
		{"/a/bc", "/a/b", false},
		{"/a/b", "/a/bc", false},
		{"/a/b", "/ab", false},
		{"/ab", "/a/b", false},
		{"/b/a", "/a", false},
		{"/a/b", "/b", false},
		{"/a/b", "/b/a", false},
		{"/a/b/c", "/a/c", false},
		{"/x/b", "/a/b", false},
	}
	for _, c := range cases {
		p, okP := impl.PathRead(c.p)
		head, okHead := impl.PathRead(c.head)
		if !okP || !okHead {
			t.Fatalf("%q or %q is not read", c.p, c.head)
		}
		if got := impl.PathIn(p, head); got != c.want {
			t.Errorf("PathIn(%s, %s) = %v; want %v", c.p, c.head, got, c.want)
		}
	}
}

func TestPathInEveryPair(t *testing.T) {
	ways := waysUpTo([]string{"a", "ab", "b"}, 4)
	for _, p := range ways {
		for _, head := range ways {
			// Closed by a slash, no name of a text begins with another one.
			want := strings.HasPrefix(strings.Join(append(slices.Clone(p), ""), "/"), strings.Join(append(slices.Clone(head), ""), "/"))
			if got := impl.PathIn(p, head); got != want {
				t.Fatalf("PathIn(%q, %q) = %v; want %v", p, head, got, want)
			}
		}
	}
}

// The chapter names no other answer of PathIn for lists that are no way: its words hold for all lists.
func TestPathInListsThatAreNoWay(t *testing.T) {
	long := slices.Repeat([]string{"a"}, 7)
	cases := []struct {
		p, head []string
		want    bool
	}{
		{nil, nil, true},
		{nil, []string{}, true},
		{[]string{}, nil, true},
		{nil, []string{""}, false},
		{[]string{""}, nil, true},
		{[]string{"A", "b"}, []string{"A"}, true},
		{[]string{"A", "b"}, []string{"a"}, false},
		{[]string{"abcde"}, []string{"abcd"}, false},
		{[]string{"a/b"}, []string{"a"}, false},
		{long, long[:6], true},
		{long[:6], long, false},
	}
	for _, c := range cases {
		if got := impl.PathIn(c.p, c.head); got != c.want {
			t.Errorf("PathIn(%q, %q) = %v; want %v", c.p, c.head, got, c.want)
		}
	}
}

// withRoom is a list with spare room behind its end, and all of it, the room too.
func withRoom(names ...string) (list []string, all []string) {
	all = append(slices.Clone(names), "room", "more")
	return all[:len(names)], all
}

func TestPathWritesIntoNoArgument(t *testing.T) {
	lists := [][]string{{}, {"a"}, {"a", "b"}, {"a", "b", "c", "d", "e"}, {"a", "b", "c", "d", "e", "f"}, {"", "A"}}
	for _, names := range lists {
		p, allOfP := withRoom(names...)
		head, allOfHead := withRoom(names...)
		wasP, wasHead := slices.Clone(allOfP), slices.Clone(allOfHead)
		impl.PathOk(p)
		impl.PathText(p)
		impl.PathIn(p, head)
		impl.PathIn(p, head[:len(head)/2])
		if !slices.Equal(allOfP, wasP) || !slices.Equal(allOfHead, wasHead) {
			t.Errorf("%q and %q were %q and %q ahead", allOfP, allOfHead, wasP, wasHead)
		}
	}
}

// sharesBytes says whether two texts lie, with some byte, in the same memory.
func sharesBytes(a, b string) bool {
	if a == "" || b == "" {
		return false
	}
	startA, startB := uintptr(unsafe.Pointer(unsafe.StringData(a))), uintptr(unsafe.Pointer(unsafe.StringData(b)))
	return startA < startB+uintptr(len(b)) && startB < startA+uintptr(len(a))
}

func TestPathAnswersAreNewMemory(t *testing.T) {
	for _, text := range []string{"/", "/a", "/a/b", "/a/b/c", "/a/b/c/d", "/a/b/c/d/e"} {
		text = strings.Clone(text)
		first, _ := impl.PathRead(text)
		second, _ := impl.PathRead(text)
		want := slices.Clone(second)
		for _, name := range first {
			if sharesBytes(name, text) {
				t.Errorf("a name of PathRead(%q) shares memory with the text", text)
			}
		}
		room := first[:cap(first)]
		for i := range room {
			room[i] = "bent"
		}
		if !slices.Equal(second, want) {
			t.Errorf("two answers of PathRead(%q) share memory", text)
		}
		for _, name := range second[len(second):cap(second)] {
			if name != "" {
				t.Errorf("two answers of PathRead(%q) share their spare room", text)
			}
		}
		if third, ok := impl.PathRead(text); !ok || !slices.Equal(third, want) {
			t.Errorf("PathRead(%q) = %q, %v once an answer was written into; want %q", text, third, ok, want)
		}
	}
	name := strings.Clone("abcd")
	if sharesBytes(impl.PathText([]string{name}), name) {
		t.Error("PathText shares memory with a name")
	}
}
