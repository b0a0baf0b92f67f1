package tests

import (
	"fmt"
	"regexp"
	"slices"
	"strconv"
	"strings"
	"testing"

	"loop.example/cellarage/impl"
)

// modelDumpText writes anything, whether it is ok or not.
func modelDumpText(d impl.Dump) string {
	live := ""
	for _, there := range d.Live {
		live += map[bool]string{false: "0", true: "1"}[there]
	}
	lines := []string{fmt.Sprintf("%d %d %s", d.Since, d.Date, live)}
	for _, of := range d.Items {
		line := fmt.Sprintf("%d %d '%s'", of.Ino, of.Node.At, of.Node.Text)
		if of.Node.Kind != 1 {
			line = fmt.Sprintf("%d %d dir", of.Ino, of.Node.At)
		}
		if len(of.Node.Names) == len(of.Node.Kids) && of.Node.Kind != 1 {
			words := []string{line}
			for i, name := range of.Node.Names {
				words = append(words, fmt.Sprintf("%s=%d", name, of.Node.Kids[i]))
			}
			line = strings.Join(words, " ")
		}
		lines = append(lines, line)
	}
	return strings.Join(lines, "\n") + "\n"
}

// modelDumpOk puts each place that is kept into a tree in which all live places are named, and asks that tree.
func modelDumpOk(d impl.Dump) bool {
	if d.Since < 0 || d.Date < 1 || d.Date > 1000 || d.Since > d.Date || len(d.Live) == 0 || len(d.Live) > 10 || !d.Live[0] {
		return false
	}
	seen := map[int]bool{}
	for i, of := range d.Items {
		if of.Ino < 0 || of.Ino >= len(d.Live) || !d.Live[of.Ino] || seen[of.Ino] || i > 0 && d.Items[i-1].Ino > of.Ino {
			return false
		}
		seen[of.Ino] = true
		if of.Node.At <= d.Since || of.Node.Kind != 1 && of.Node.Kind != 2 || of.Ino == 0 && of.Node.Kind == 1 {
			return false
		}
		around := tree(d.Date, make([]impl.Node, len(d.Live))...)
		for ino, there := range d.Live {
			if there {
				around.Nodes[ino] = file(1, "")
			}
		}
		if !modelPlaceOk(around, of.Node) {
			return false
		}
	}
	return true
}

var (
	modelHead = regexp.MustCompile(`\A(0|[1-9][0-9]*) ([1-9][0-9]*) (1[01]{0,9})\n`)
	modelLine = regexp.MustCompile(`\A([0-9]) ([1-9][0-9]*) (?:'([a-z]{0,6})'|(dir)((?: [a-z]{1,4}=[1-9])*))\n`)
)

// modelDumpRead reads a text by patterns that fit nothing else.
func modelDumpRead(text string) (impl.Dump, bool) {
	number := func(digits string) int {
		n, err := strconv.ParseUint(digits, 10, 20)
		if err != nil {
			return 1 << 20
		}
		return int(n)
	}
	head := modelHead.FindStringSubmatch(text)
	if head == nil || len(text) > 2000 {
		return impl.Dump{}, false
	}
	d := dump(number(head[1]), number(head[2]), head[3])
	for rest := text[len(head[0]):]; rest != ""; {
		line := modelLine.FindStringSubmatch(rest)
		if line == nil {
			return impl.Dump{}, false
		}
		n := impl.Node{Kind: 1, Text: line[3], At: number(line[2])}
		if line[4] != "" {
			n.Kind = 2
			for _, word := range strings.Fields(line[5]) {
				n.Names, n.Kids = append(n.Names, word[:len(word)-2]), append(n.Kids, number(word[len(word)-1:]))
			}
		}
		d.Items = append(d.Items, item(number(line[1]), n))
		rest = rest[len(line[0]):]
	}
	if !modelDumpOk(d) {
		return impl.Dump{}, false
	}
	return d, true
}

// wantReadAsModel asks that a text is read as the model reads it, and that what is read is written so.
func wantReadAsModel(t *testing.T, text string) (ok bool) {
	t.Helper()
	want, ok := modelDumpRead(text)
	if !ok {
		wantNoDump(t, text)
		return false
	}
	wantDumpRead(t, text, want)
	if got := impl.DumpText(want); got != text {
		t.Errorf("DumpText = %q; want %q", got, text)
	}
	return true
}

// wantDumpAsModel asks of something whether it is ok, its size, its text, and that it is read from that, as the model says.
func wantDumpAsModel(t *testing.T, d impl.Dump) (ok bool) {
	t.Helper()
	if !modelDumpOk(d) {
		wantDumpNotOk(t, "by the model", d)
		return false
	}
	text := modelDumpText(d)
	size := 0
	for _, of := range d.Items {
		size += 1 + len(of.Node.Text) + len(of.Node.Names)
	}
	wantDumpOk(t, "by the model", d, size, strings.Split(strings.TrimSuffix(text, "\n"), "\n")...)
	return true
}

// keepable is all that may be kept of a place of three, and some that may not.
func keepable() []impl.Item {
	var all []impl.Item
	nodes := []impl.Node{free(), file(1, ""), file(2, "a"), file(3, "a"), file(2, "A"), dir(1), dir(2), dir(0), dir(2, "a", 1), dir(2, "a", 2), dir(2, "a", 0), dir(2, "a", 3), dir(2, "a", 1, "b", 2), dir(2, "b", 1, "a", 2), dir(2, "a", 2, "a", 2)}
	for ino := -1; ino <= 3; ino++ {
		for _, n := range nodes {
			all = append(all, item(ino, n))
		}
	}
	return all
}

func TestDumpEverySmallOne(t *testing.T) {
	ok, not := 0, 0
	ask := func(since, date int, live string, items ...impl.Item) {
		if wantDumpAsModel(t, dump(since, date, live, items...)) {
			ok++
		} else {
			not++
		}
	}
	all := keepable()
	for since := -1; since <= 3; since++ {
		for date := -1; date <= 3; date++ {
			for _, live := range []string{"", "0", "1", "00", "01", "10", "11", "100", "101", "110", "111"} {
				ask(since, date, live)
				for _, first := range all {
					ask(since, date, live, first)
				}
			}
		}
	}
	for _, live := range []string{"1", "10", "11", "101", "110", "111"} {
		for _, first := range all {
			for _, second := range all {
				ask(0, 2, live, first, second)
			}
		}
	}
	if ok < 400 || not < 5000 {
		t.Errorf("%d are ok, and %d are not", ok, not)
	}
}

func TestDumpReadEveryShortText(t *testing.T) {
	read := 0
	count := func(text string) {
		if wantReadAsModel(t, text) {
			read++
		}
	}
	textsUpTo("01 \n", 8, count)
	// The texts of a line are made of words: letter by letter there would be too many.
	for _, words := range [][]string{
		{"0", "1 1 ", " ", "\n", "'", "a"}, {"0 1 ", "1 1 ", "dir", " ", "a", "=", "1", "\n"}, {"0 1 dir\n", "1 1 ''\n", "1 1 dir\n", "2 1 'a'\n", "2 1 dir a=1\n", "\n", " ", "0 1 dir a=1 b=2\n"},
	} {
		signs := "abcdefgh"[:len(words)]
		textsUpTo(signs, 5, func(text string) {
			told := "0 1 111\n"
			for i := range len(text) {
				told += words[text[i]-'a']
			}
			count(told)
		})
	}
	if read < 60 {
		t.Errorf("only %d texts were read", read)
	}
}

// modelDumpOf keeps places by what is said of them alone.
func modelDumpOf(x impl.Tree, since int) impl.Dump {
	d := impl.Dump{Since: since, Date: x.Now}
	for ino, n := range x.Nodes {
		d.Live = append(d.Live, n.Kind > 0)
		if n.Kind > 0 && n.At >= since+1 {
			d.Items = append(d.Items, item(ino, n))
		}
	}
	return d
}

// wantKeptAsModel asks what is kept of a tree since a turn, as the model says.
func wantKeptAsModel(t *testing.T, x impl.Tree, since int) impl.Dump {
	t.Helper()
	want := modelDumpOf(x, since)
	got, ok := impl.DumpOf(x, since)
	if !ok || listedDump(got) != listedDump(want) {
		t.Fatalf("DumpOf since %d = %v,\n%swant\n%sof\n%s", since, ok, listedDump(got), listedDump(want), listed(x))
	}
	if !wantDumpAsModel(t, got) {
		t.Fatalf("what is kept since %d is not ok:\n%s", since, listedDump(got))
	}
	return got
}

func TestDumpOfEverySmallTree(t *testing.T) {
	all := smallTrees(4)
	for i, x := range all {
		// A place a turn, in an order that hangs on which tree it is.
		x.Now = 4
		for ino, n := range x.Nodes {
			if n.Kind != impl.NodeFree {
				x.Nodes[ino].At = 1 + (ino+i)%4
			}
		}
		for since := range 5 {
			wantKeptAsModel(t, x, since)
		}
		wantNotKept(t, x, 5)
		wantNotKept(t, x, -1)
	}
	if len(all) < 500 {
		t.Errorf("only %d trees are ok", len(all))
	}
}

// wantTurnedSince asks promise 5 of two trees, the one as it was at the turn since which the other is kept, by what they hold and not by turns.
func wantTurnedSince(t *testing.T, was, is impl.Tree, d impl.Dump, seen map[string]int) {
	t.Helper()
	if len(d.Live) != len(is.Nodes) || len(was.Nodes) > len(is.Nodes) {
		t.Fatalf("there are %d places, and %d are told", len(is.Nodes), len(d.Live))
	}
	for ino, n := range is.Nodes {
		at := slices.IndexFunc(d.Items, func(of impl.Item) bool { return of.Ino == ino })
		switch {
		case n.Kind == impl.NodeFree:
			if d.Live[ino] || at >= 0 {
				t.Fatalf("place %d is free, and is kept:\n%s", ino, listedDump(d))
			}
			seen["free"]++
		case at >= 0:
			if !d.Live[ino] || !impl.NodeSame(d.Items[at].Node, n) {
				t.Fatalf("place %d is not kept as it is:\n%s%s", ino, listedDump(d), listed(is))
			}
			if ino < len(was.Nodes) && was.Nodes[ino].Kind != impl.NodeFree && was.Nodes[ino].Kind != n.Kind {
				seen["taken anew"]++
			}
			seen["turned"]++
		default:
			if !d.Live[ino] || ino >= len(was.Nodes) || !impl.NodeSame(was.Nodes[ino], n) {
				t.Fatalf("place %d was turned, and is not kept:\n%s%s%s", ino, listedDump(d), listed(was), listed(is))
			}
			seen["not turned"]++
		}
	}
}

// A tree is turned until it has no turn any more; at each turn it is kept since each of some turns ahead.
func TestDumpTillTheLastTurn(t *testing.T) {
	seen := map[string]int{}
	for start := range 4 {
		r := draw(200 + start)
		for all := range r.turned(t) {
			x := all[len(all)-1]
			for _, since := range []int{x.Now, x.Now - 1, max(x.Now-5, 1), 1 + r.below(x.Now)} {
				wantTurnedSince(t, all[since], x, wantKeptAsModel(t, x, since), seen)
			}
			wantKeptAsModel(t, x, 0)
			wantNotKept(t, x, x.Now+1)
		}
	}
	wantSeen(t, seen, "free", "turned", "not turned", "taken anew")
}
