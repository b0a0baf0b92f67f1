package tests

import (
	"fmt"
	"slices"
	"strings"
	"sync"
	"testing"

	"loop.example/cellarage/impl"
)

// The document's example.
const (
	exampleScript = "dir /a\nfile /a/b\ntext /a/b hello\nkeep 0\nlink /a/b /c\nkeep 2\nmove /a /home\nfile /home/new\nkeep 1\nchain\ndrop /c\nback\npick /home/b\nmany"
	exampleAnswer = "fine\nfine\nfine\n0 4 111\n0 2 dir a=1\n1 3 dir b=2\n2 4 'hello'\nend\nfine\n4 5 111\n0 5 dir a=1 c=2\n2 5 'hello'\nend\nfine\nfine\n" +
		"4 7 1111\n0 6 dir c=2 home=1\n1 7 dir b=2 new=3\n2 5 'hello'\n3 7 ''\nend\n0 0\n2 1\nend\nfine\n" +
		"/ dir\n/c 'hello'\n/home dir\n/home/b as /c\n/home/new ''\nend\n/c\n/home/b\nend\n'hello'\n2 2 5\n"
)

// said is a line, and what is answered to it.
type said struct{ line, answer string }

// talk is lines and answers in turns, each answer written without the newline at its end; a line that answers nothing has no answer.
func talk(linesAndAnswers ...string) []said {
	var all []said
	for pair := range slices.Chunk(linesAndAnswers, 2) {
		one := said{line: pair[0]}
		if pair[1] != "" {
			one.answer = pair[1] + "\n"
		}
		all = append(all, one)
	}
	return all
}

// wantTalk asks for the answers of a script, cut behind any of its lines, with and without a newline at its end.
func wantTalk(t *testing.T, what string, all []said) {
	t.Helper()
	script, want := "", ""
	for i, one := range all {
		if i > 0 {
			script += "\n"
		}
		script += one.line
		want += one.answer
		for _, end := range []string{"", "\n", "\n\n", "\n  \n "} {
			if got := impl.DeskRun(script + end); got != want {
				t.Fatalf("%s: %q answers\n%swant\n%s", what, script+end, got, want)
			}
		}
	}
	if got := modelRun(script); got != want {
		t.Errorf("%s: the model answers\n%sand not\n%s", what, got, want)
	}
}

// behind is what a line answers behind a script.
func behind(t *testing.T, script, line string) string {
	t.Helper()
	first, all := impl.DeskRun(script), impl.DeskRun(script+"\n"+line)
	answer, ok := strings.CutPrefix(all, first)
	if !ok {
		t.Fatalf("%.400q answers\n%sand with %.100q behind it\n%s", script, first, line, all)
	}
	return answer
}

// setUp is a script that turns and keeps a tree of which each line can tell something, and one of a desk at which nothing was kept.
const (
	setUp   = "dir /a\nfile /a/x\ntext /a/x hello\nkeep 1\nlink /a/x /b\ndir /a/d\nfile /c\nkeep 4\nmove /b /a/d/y\nkeep 6\ntext /c bye"
	notKept = "file /b\ndir /a\nfile /a/x"
)

// probes is lines by whose answers desks are told apart: the tree, its turn, what was kept of it, and the book.
var probes = []string{"show", "many", "chain", "back", "pick /", "tape 2000", "keep 0", "keep 3", "keep 5", "keep 9", "file /new", "drop /b", "file /q\nkeep 7\nback\nchain\ntape 999"}

// wantIdle asks that a line answers this behind a script, and that nothing was done.
func wantIdle(t *testing.T, script, line, answer string) {
	t.Helper()
	if got := behind(t, script, line); got != answer+"\n" {
		t.Errorf("%.100q answers %.200q behind %.400q; want %q", line, got, script, answer)
	}
	for _, probe := range probes {
		want := behind(t, script, probe)
		for _, lines := range []string{line, line + "\n" + line} {
			if got := behind(t, script+"\n"+lines, probe); got != want {
				t.Errorf("behind %.400q and %.100q, %q answers\n%swant\n%s", script, lines, probe, got, want)
			}
		}
	}
}

func TestDeskBounds(t *testing.T) {
	if got, want := [3]int{impl.DeskMaxText, impl.DeskMaxLines, impl.DeskMaxOut}, [3]int{20000, 200, 60000}; got != want {
		t.Errorf("bounds are %v; want %v", got, want)
	}
}

func TestDeskExample(t *testing.T) {
	if got := impl.DeskRun(exampleScript); got != exampleAnswer {
		t.Errorf("the example answers\n%swant\n%s", got, exampleAnswer)
	}
	if got := modelRun(exampleScript); got != exampleAnswer {
		t.Errorf("the model answers to the example\n%swant\n%s", got, exampleAnswer)
	}
}

func TestDeskMakes(t *testing.T) {
	wantTalk(t, "dir and file", talk(
		"dir /a", "fine", "file /b", "fine", "dir /a/d", "fine", "file /a/d/f", "fine",
		"dir /", "none", "file /", "none", "dir /q/r", "none", "file /q/r", "none", "dir /b/r", "none", "file /b/r", "none",
		"dir /a", "there", "dir /b", "there", "file /a", "there", "file /b", "there", "dir /a/d/f", "there", "file /a/d", "there",
		"dir /a/d/e", "fine", "dir /a/d/e/abcd", "fine", "file /a/d/e/abcd/z", "fine", "file /a/d/e/abcd/z/z", "what",
		"many", "3 5 0", "dir /e", "fine", "file /g", "fine",
		"dir /h", "full", "file /h", "full", "dir /a", "there", "file /g", "there", "dir /q/r", "none",
		"drop /b", "fine", "dir /h", "fine", "file /i", "full",
		"show", "/ dir\n/a dir\n/a/d dir\n/a/d/e dir\n/a/d/e/abcd dir\n/a/d/e/abcd/z ''\n/a/d/f ''\n/e dir\n/g ''\n/h dir\nend",
	))
	wantTalk(t, "text", talk(
		"file /b", "fine", "text /b x", "fine", "show", "/ dir\n/b 'x'\nend", "text /b abcdef", "fine", "many", "1 1 6",
		"text /b abcdefg", "bad", "text /b A", "bad", "text /b x1", "bad", "text /b 'x'", "bad", "text /b /", "bad", "text /b \xff\x00", "bad", "text /b \tx", "bad", "text /b é", "bad",
		"text / x", "bad", "text /q x", "none", "text /b/q x", "none", "text /q X", "bad", "dir /d", "fine", "text /d x", "bad",
		"show", "/ dir\n/b 'abcdef'\n/d dir\nend", "text /b text", "fine", "text /b text", "fine", "keep 0", "0 7 111\n0 5 dir b=1 d=2\n1 7 'text'\n2 5 dir\nend",
	))
	wantTalk(t, "link", talk(
		"file /b", "fine", "dir /d", "fine", "link /b /d/b", "fine", "link /d/b /a", "fine", "show", "/ dir\n/a ''\n/b as /a\n/d dir\n/d/b as /a\nend",
		"link /q /r", "none", "link /b /", "none", "link /b /q/r", "none", "link /b /a/q", "none", "link /q /b", "none",
		"link / /r", "bad", "link /d /r", "bad", "link /d /b", "bad", "link /b /d", "there", "link /b /b", "there", "link /b /d/b", "there", "many", "1 2 0",
	))
	wantTalk(t, "move", talk(
		"file /b", "fine", "dir /d", "fine", "dir /d/e", "fine", "move /b /d/e/f", "fine", "move /d/e /e", "fine", "show", "/ dir\n/d dir\n/e dir\n/e/f ''\nend",
		"move /q /r", "none", "move /e /", "none", "move /e /q/r", "none", "move /e /e/f/r", "none", "move / /", "none", "move /q /d", "none",
		"move / /r", "bad", "move /e /e", "bad", "move /e /e/r", "bad", "move /e /e/f", "bad", "move /e /d", "there", "move /e/f /e/f", "there", "move /e/f /d", "there",
		"move /d /e/d", "fine", "show", "/ dir\n/e dir\n/e/d dir\n/e/f ''\nend",
	))
	wantTalk(t, "drop", talk(
		"file /b", "fine", "link /b /c", "fine", "dir /d", "fine", "file /d/f", "fine",
		"drop /q", "none", "drop /b/q", "none", "drop /q/r", "none", "drop /", "bad", "drop /d", "bad",
		"drop /b", "fine", "many", "2 2 0", "drop /c", "fine", "many", "1 2 0", "drop /d/f", "fine", "drop /d", "fine", "show", "/ dir\nend", "drop /d", "none",
		"keep 0", "0 9 1000\n0 9 dir\nend",
	))
}

func TestDeskRootAlone(t *testing.T) {
	wantTalk(t, "a root alone", talk(
		"show", "/ dir\nend", "many", "0 1 0", "chain", "end", "back", "none", "pick /", "none", "tape 5", "none",
		"keep 0", "0 1 1\n0 1 dir\nend", "back", "/ dir\nend\nend", "pick /", "dir", "pick /a", "none", "chain", "0 0\nend", "tape 14", fmt.Sprintf("1 1 %d 14\nend", modelSum("0 1 1\n0 1 dir\n")),
		"keep 1", "1 1 1\nend", "back", "/ dir\nend\nend", "pick /", "dir", "chain", "0 0\n1 1\nend", "tape 14", fmt.Sprintf("1 1 %d 6\nend", modelSum("1 1 1\n")),
		"keep 0", "0 1 1\n0 1 dir\nend", "chain", "2 0\nend", "back", "/ dir\nend\nend", "show", "/ dir\nend",
	))
	wantTalk(t, "a root that is alone again", talk(
		"keep 2", "0 1 1\n0 1 dir\nend", "dir /a", "fine", "keep 5", "1 2 11\n0 2 dir a=1\n1 2 dir\nend", "pick /", "dir a", "pick /a", "dir", "drop /a", "fine",
		"back", "/ dir\n/a dir\nend\n/a\nend", "keep 3", "1 3 10\n0 3 dir\nend", "chain", "0 2\n2 3\nend", "back", "/ dir\nend\nend", "pick /", "dir", "pick /a", "none",
	))
}

func TestDeskKeep(t *testing.T) {
	wantTalk(t, "a level kept twice in one turn", talk(
		"file /a", "fine", "keep 3", "0 2 11\n0 2 dir a=1\n1 2 ''\nend", "keep 3", "0 2 11\n0 2 dir a=1\n1 2 ''\nend", "chain", "1 3\nend", "back", "/ dir\n/a ''\nend\nend", "pick /a", "''",
		"keep 4", "2 2 11\nend", "keep 4", "2 2 11\nend", "chain", "1 3\n3 4\nend", "back", "/ dir\n/a ''\nend\nend", "pick /", "dir a",
		"text /a t", "fine", "keep 4", "2 3 11\n1 3 't'\nend", "keep 9", "3 3 11\nend", "keep 4", "2 3 11\n1 3 't'\nend", "chain", "1 3\n6 4\nend", "back", "/ dir\n/a 't'\nend\nend", "pick /a", "'t'",
		"keep 0", "0 3 11\n0 2 dir a=1\n1 3 't'\nend", "keep 0", "0 3 11\n0 2 dir a=1\n1 3 't'\nend", "chain", "8 0\nend", "back", "/ dir\n/a 't'\nend\nend",
	))
	wantTalk(t, "a lesser level behind a greater one", talk(
		"keep 0", "0 1 1\n0 1 dir\nend", "file /a", "fine", "keep 5", "1 2 11\n0 2 dir a=1\n1 2 ''\nend", "file /b", "fine", "keep 7", "2 3 111\n0 3 dir a=1 b=2\n2 3 ''\nend", "chain", "0 0\n1 5\n2 7\nend",
		"text /a t", "fine", "back", "/ dir\n/a ''\n/b ''\nend\n/a\nend", "pick /a", "''",
		"keep 6", "2 4 111\n0 3 dir a=1 b=2\n1 4 't'\n2 3 ''\nend", "chain", "0 0\n1 5\n3 6\nend", "back", "/ dir\n/a 't'\n/b ''\nend\nend", "pick /a", "'t'",
		"drop /b", "fine", "keep 2", "1 5 110\n0 5 dir a=1\n1 4 't'\nend", "chain", "0 0\n4 2\nend", "back", "/ dir\n/a 't'\nend\nend", "pick /b", "none",
		"keep 9", "5 5 110\nend", "drop /a", "fine", "keep 1", "1 6 100\n0 6 dir\nend", "chain", "0 0\n6 1\nend", "back", "/ dir\nend\nend", "pick /", "dir",
		"keep 0", "0 6 100\n0 6 dir\nend", "chain", "7 0\nend", "back", "/ dir\nend\nend",
	))
	wantTalk(t, "the first one of any level is kept since 0", talk(
		"keep 9", "0 1 1\n0 1 dir\nend", "file /a", "fine", "keep 8", "0 2 11\n0 2 dir a=1\n1 2 ''\nend", "chain", "1 8\nend", "keep 9", "2 2 11\nend", "chain", "1 8\n2 9\nend", "pick /", "dir a",
	))
	for _, level := range []string{"-1", "10", "11", "-10", "99999999999999999", "-99999999999999999", "4294967296", "-4294967295"} {
		for _, script := range []string{"", setUp, notKept} {
			wantIdle(t, script, "keep "+level, "no")
		}
	}
}

// Twenty are kept, at levels that come again or not; one more is not, whatever becomes of the tree.
func TestDeskKeepTwenty(t *testing.T) {
	for name, levels := range map[string]string{"one level": "55555555555555555555", "all levels": "01234567890123456789", "descending": "98765432109876543210", "as they come": "19203847561029384756"} {
		all := talk("dir /a", "fine")
		for i, level := range levels {
			all = append(all, talk(fmt.Sprintf("file /a/%c", 'a'+i%8), []string{"fine", "there"}[min(1, i/8)])...)
			line := "keep " + string(level)
			all = append(all, said{line, behind(t, scriptOf(all), line)})
		}
		wantTalk(t, name, all)
		script := scriptOf(all)
		if last := all[len(all)-1].answer; !strings.HasSuffix(last, "end\n") {
			t.Errorf("%s: the twentieth answers %q", name, last)
		}
		for _, line := range []string{"keep 0", "keep 5", "keep 9", "keep 10"} {
			wantIdle(t, script, line, "no")
			wantIdle(t, script+"\ndrop /a/a\nfile /new", line, "no")
		}
		if show, back := behind(t, script, "show"), behind(t, script, "back"); back != show+"end\n" {
			t.Errorf("%s: brought back is\n%swant\n%s", name, back, show)
		}
	}
}

func scriptOf(all []said) string {
	var lines []string
	for _, one := range all {
		lines = append(lines, one.line)
	}
	return strings.Join(lines, "\n")
}

func TestDeskBackAndPick(t *testing.T) {
	wantTalk(t, "back and pick", talk(
		"back", "none", "pick /", "none", "pick /a", "none", "file /f", "fine", "back", "none", "pick /f", "none",
		"dir /a", "fine", "file /a/x", "fine", "text /a/x hello", "fine", "link /a/x /a/y", "fine", "dir /a/d", "fine",
		"keep 0", "0 7 11111\n0 3 dir a=2 f=1\n1 2 ''\n2 7 dir d=4 x=3 y=3\n3 6 'hello'\n4 7 dir\nend",
		"pick /", "dir a f", "pick /a", "dir d x y", "pick /a/x", "'hello'", "pick /a/y", "'hello'", "pick /f", "''", "pick /a/d", "dir", "pick /q", "none", "pick /f/q", "none", "pick /a/d/q", "none",
		"back", "/ dir\n/a dir\n/a/d dir\n/a/x 'hello'\n/a/y as /a/x\n/f ''\nend\nend",
		"drop /a/x", "fine", "text /a/y bye", "fine", "move /f /a/d/f", "fine", "dir /b", "fine", "file /b/c", "fine",
		"back", "/ dir\n/a dir\n/a/d dir\n/a/x 'hello'\n/a/y as /a/x\n/f ''\nend\n/a/x\n/a/y\n/f\n/a/d/f\n/b\n/b/c\nend",
		"pick /a/x", "'hello'", "pick /a/y", "'hello'", "pick /b", "none", "pick /f", "''", "pick /", "dir a f",
		"drop /b/c", "fine", "drop /b", "fine", "move /a /f", "fine", "back", "/ dir\n/a dir\n/a/d dir\n/a/x 'hello'\n/a/y as /a/x\n/f ''\nend\n/a\n/a/d\n/a/x\n/a/y\n/f\n/f/d\n/f/d/f\n/f/y\nend",
		"keep 9", "7 15 1111100\n0 15 dir f=2\n1 10 ''\n2 15 dir d=4 y=3\n3 9 'bye'\n4 10 dir f=1\nend", "pick /a", "none", "pick /f", "dir d y", "pick /f/d/f", "''", "pick /f/y", "'bye'", "many", "2 3 3",
	))
	deep := "dir /a\ndir /a/b\ndir /a/b/c\nfile /a/b/c/f\ntext /a/b/c/f deep\ndir /q\ndir /q/r\ndir /q/r/s\nkeep 0\nmove /a /q/r/s/a"
	for line, want := range map[string]string{
		"back":        "/ dir\n/a dir\n/a/b dir\n/a/b/c dir\n/a/b/c/f 'deep'\n/q dir\n/q/r dir\n/q/r/s dir\nend\n/a\n/a/b\n/a/b/c\n/a/b/c/f\n/q/r/s/a\n/q/r/s/a/b\nend\n",
		"show":        "/ dir\n/q dir\n/q/r dir\n/q/r/s dir\n/q/r/s/a dir\n/q/r/s/a/b dir\nend\n",
		"many":        "1 7 4\n",
		"pick /a/b/c": "dir f\n",
		// What lies deeper than ways lead was kept, too, though no way tells of it.
		"keep 1\nback\npick /q/r/s/a/b\nmove /q/r/s/a /a\nkeep 2\npick /a/b/c/f": "9 10 11111111\n0 10 dir q=5\n1 10 dir b=2\n7 10 dir a=1\nend\n" +
			"/ dir\n/q dir\n/q/r dir\n/q/r/s dir\n/q/r/s/a dir\n/q/r/s/a/b dir\nend\nend\ndir c\nfine\n10 11 11111111\n0 11 dir a=1 q=5\n1 11 dir b=2\n7 11 dir\nend\n'deep'\n",
	} {
		if got := behind(t, deep, line); got != want {
			t.Errorf("behind a deep tree, %q answers\n%swant\n%s", line, got, want)
		}
		wantRunAsModel(t, deep+"\n"+line)
	}
}

func TestDeskTape(t *testing.T) {
	for _, size := range []string{"5", "0", "-1", "1", "2000", "2001", "10", "99999999999999999"} {
		wantIdle(t, "", "tape "+size, "none")
		wantIdle(t, notKept, "tape "+size, "none")
	}
	for _, size := range []string{"0", "-1", "-5", "2001", "1", "99999999999999999", "-99999999999999999", "4294967296"} {
		wantIdle(t, setUp, "tape "+size, "no")
	}
	wantIdle(t, "keep 0", "tape 5", "1 3 62 5\n2 3 3322 5\n3 3 2757 4\nend")
	wantIdle(t, "keep 0", "tape 13", fmt.Sprintf("1 2 %d 13\n2 2 11 1\nend", modelSum("0 1 1\n0 1 dir")))
	wantIdle(t, "keep 0", "tape 14", fmt.Sprintf("1 1 %d 14\nend", modelSum("0 1 1\n0 1 dir\n")))
	wantIdle(t, "keep 0", "tape 2000", fmt.Sprintf("1 1 %d 14\nend", modelSum("0 1 1\n0 1 dir\n")))
	// Forty pieces may be, and one more may not.
	forty := "dir /a\nfile /b\nfile /c\nfile /d\nfile /e\nlink /b /f\nkeep 0"
	kept := strings.TrimSuffix(behind(t, "dir /a\nfile /b\nfile /c\nfile /d\nfile /e\nlink /b /f", "keep 0"), "end\n")
	size := (len(kept) + 39) / 40
	if size < 2 || len(kept) <= 40*(size-1) {
		t.Fatalf("%d bytes were kept", len(kept))
	}
	for _, c := range []struct {
		size int
		ok   bool
	}{{size - 1, false}, {size, true}, {size + 1, true}} {
		answer := behind(t, forty, fmt.Sprint("tape ", c.size))
		if (answer != "no\n") != c.ok {
			t.Errorf("tape %d of %d bytes answers\n%s", c.size, len(kept), answer)
		}
		wantRunAsModel(t, forty+fmt.Sprint("\ntape ", c.size))
	}
	// What was kept last is cut, whatever is needed to bring it back, and whatever the tree is by now.
	last := "1 2 11\n0 2 dir a=1\n1 2 ''\n"
	for _, more := range []string{"", "\ntext /a t\nfile /b", "\nkeep 10\nkeep -1", "\nback\nchain\npick /\ntape 7"} {
		wantIdle(t, "keep 0\nfile /a\nkeep 3"+more, fmt.Sprint("tape ", len(last)), fmt.Sprintf("1 1 %d %d\nend", modelSum(last), len(last)))
	}
}

// wrongWays is words that are no ways, and wrongNumbers such as are no numbers; no word is the empty text.
var (
	wrongWays    = []string{"a", "//", "/a/", "//a", "/a//b", "/A", "/aB", "/abcde", "/a/abcde", "/a/b/c/d/e/f", "/a.", ".", "/.", "/..", "\\a", "/a\\b", "/a/b/c/d/e/", "/\xff", "/a\x00", "\x00", "/a\t", "\t/a", "/a\r", "'/a'", "/é", "/a1", "/a-b", "-", "0", "/a\u00a0/b"}
	wrongNumbers = []string{"x", "-", "--", "-0", "+", "+0", "+1", "+5", "00", "01", "05", "-01", "-00", "0000000000000000000005", "5x", "x5", "0x5", "0b1", "1_0", "5.0", "5.", ".5", "1e1", "--1", "-+1", "5-", "1-1", "5,", "/", "/a", "'5'", "\t5", "5\t", "5\r", "5\x00", "\xff", "٣", "５",
		"123456789012345678", "100000000000000000", "-123456789012345678", "-100000000000000000", "9223372036854775807", "9223372036854775808", "-9223372036854775808", "-9223372036854775809", "18446744073709551616", "18446744073709551621", strings.Repeat("9", 300), "000000000000000005"}
)

func TestDeskLinesThatAreNone(t *testing.T) {
	lines := []string{
		"fly", "x", "DIR /q", "Dir /q", "dirs /q", "di /q", "d", "showing", "sho", "SHOW", "end", "fine", "what", "full", "new /q", "make /q", "look", "/", "/a", "0", "-", "'", "\x00", "\xff", "show\x00", "\xffshow", "show\t", "\tshow", "show\r", "show\v", "dir\t/q", "dir/q", "dir\u00a0/q", "dir\u2003/q", "\ufeffshow", "many\xff\xfe", "é", "keep0", "keep\x000", "show\x00many", "\xe2\x82",
		"dir", "file", "drop", "pick", "text", "text /b", "link", "link /b", "move", "move /b", "keep", "tape",
		"dir /q /r", "file /q /r", "drop /b /b", "drop /c /", "pick / /", "pick / x", "text /b x y", "text /b x /", "link /b /q /r", "move /b /q /r", "keep 3 3", "keep 3 x", "tape 5 5", "tape 2000 /",
		"show /", "show show", "show 0", "many 0", "many many", "chain 0", "chain chain", "back /", "back back", "keep 3 keep 4", "dir /q dir /r",
		"dir /q /r /s", strings.Repeat("show ", 100), "keep" + strings.Repeat(" 3", 500),
	}
	for _, p := range wrongWays {
		lines = append(lines, "dir "+p, "file "+p, "drop "+p, "pick "+p, "text "+p+" x", "link "+p+" /q", "link /b "+p, "move "+p+" /q", "move /b "+p, "link "+p+" "+p, "move "+p+" "+p)
	}
	for _, n := range wrongNumbers {
		lines = append(lines, "keep "+n, "tape "+n)
	}
	for _, line := range lines {
		wantIdle(t, setUp, line, "what")
		wantIdle(t, notKept, line, "what")
		for _, script := range []string{line, "   " + line + "  ", "\n\n" + line + "\n"} {
			if got := impl.DeskRun(script); got != "what\n" {
				t.Errorf("%.100q answers %.100q", script, got)
			}
		}
		if got := modelRun(line); got != "what\n" {
			t.Errorf("the model answers %.100q to %.100q", got, line)
		}
	}
}

// What can be read, but not done, turns nothing either.
func TestDeskRefusedLinesDoNothing(t *testing.T) {
	for line, answer := range map[string]string{
		"dir /": "none", "dir /q/r": "none", "dir /a": "there", "file /": "none", "file /a/x/q": "none", "file /c": "there",
		"text /a/x HELLO": "bad", "text /a/x toolong": "bad", "text / x": "bad", "text /a x": "bad", "text /q x": "none",
		"link /q /r": "none", "link /c /": "none", "link /a /q": "bad", "link /c /a/x": "there", "move /q /r": "none", "move /c /": "none", "move / /q": "bad", "move /a /a/d/q": "bad", "move /c /a": "there",
		"drop /q": "none", "drop /": "bad", "drop /a": "bad", "pick /q": "none", "pick /b": "none", "pick /c": "''", "pick /a/d": "dir y", "pick /": "dir a c", "many": "2 3 8", "chain": "0 1\n1 4\n2 6\nend",
	} {
		wantIdle(t, setUp, line, answer)
		wantRunAsModel(t, setUp+"\n"+line)
	}
	full := "dir /a\nfile /b\nfile /c\nfile /d\nfile /e\nfile /f\nfile /g\nfile /h\nkeep 0\nfile /i"
	wantIdle(t, full, "dir /q", "full")
	wantIdle(t, full, "file /a/q", "full")
	wantIdle(t, full, "dir /q/r", "none")
	wantIdle(t, full, "file /i", "there")
}

// A text of any length and any bytes is taken as a word.
func TestDeskWords(t *testing.T) {
	for _, word := range []string{"X", "abcdefg", "/", "0", "-", "'x'", "\t", "\r", "\x00", "\xff", "é", "\u00a0", "\xe2\x82", strings.Repeat("a", 5000), strings.Repeat("\xff", 300)} {
		wantIdle(t, setUp, "text /c "+word, "bad")
		wantIdle(t, setUp, "  text  /q  "+word+"  ", "bad")
	}
	for _, c := range []struct{ script, want string }{
		{"", ""}, {" ", ""}, {"\n", ""}, {"   \n \n\n  ", ""}, {"many", "0 1 0\n"}, {"many\n", "0 1 0\n"}, {"\nmany", "0 1 0\n"}, {" many", "0 1 0\n"}, {"many ", "0 1 0\n"}, {"  \n  many  \n  ", "0 1 0\n"},
		{"many many", "what\n"}, {"ma ny", "what\n"}, {"many\nmany", "0 1 0\n0 1 0\n"}, {"many\n\n\nmany\n\n", "0 1 0\n0 1 0\n"}, {"many\r\nmany", "what\n0 1 0\n"}, {"\t\n\t", "what\nwhat\n"},
		{"  file   /a\n text     /a    x   \n pick /a\n  keep   3   \n    pick    /a    ", "fine\nfine\nnone\n0 3 11\n0 2 dir a=1\n1 3 'x'\nend\n'x'\n"},
		{"file /a\nlink    /a /b\n move /b     /c\nshow ", "fine\nfine\nfine\n/ dir\n/a ''\n/c as /a\nend\n"},
		{"file\n/a", "what\nwhat\n"}, {"text /a\nx", "what\nwhat\n"}, {strings.Repeat(" ", 5000) + "file" + strings.Repeat(" ", 5000) + "/a" + strings.Repeat(" ", 5000), "fine\n"},
	} {
		if got := impl.DeskRun(c.script); got != c.want {
			t.Errorf("%.100q answers %q; want %q", c.script, got, c.want)
		}
		wantRunAsModel(t, c.script)
	}
}

func TestDeskLong(t *testing.T) {
	for _, c := range []struct{ script, want string }{
		{strings.Repeat(" ", 20000), ""}, {strings.Repeat(" ", 20001), "long\n"}, {strings.Repeat(" ", 19996) + "many", "0 1 0\n"}, {strings.Repeat(" ", 19997) + "many", "long\n"},
		{"many" + strings.Repeat(" ", 19996), "0 1 0\n"}, {"many" + strings.Repeat(" ", 19997), "long\n"}, {"many\n" + strings.Repeat("a", 19995), "0 1 0\nwhat\n"}, {"many\n" + strings.Repeat("a", 19996), "long\n"},
		{strings.Repeat("\n", 20000), ""}, {strings.Repeat("\n", 20001), "long\n"}, {strings.Repeat("\n", 19996) + "many", "full\n"}, {strings.Repeat("\n", 19997) + "many", "long\n"},
		{strings.Repeat("x ", 10000), "what\n"}, {strings.Repeat("x ", 10000) + "x", "long\n"}, {strings.Repeat("many\n", 4000), strings.Repeat("0 1 0\n", 200) + "full\n"}, {strings.Repeat("many\n", 4001), "long\n"},
		{strings.Repeat("\xff", 20000), "what\n"}, {strings.Repeat("é", 10000), "what\n"}, {strings.Repeat("é", 10001), "long\n"}, {strings.Repeat("many\n", 1000000), "long\n"},
	} {
		if got := impl.DeskRun(c.script); got != c.want {
			t.Errorf("%d bytes, the first of which are %.20q, answer %.100q; want %.100q", len(c.script), c.script, got, c.want)
		}
	}
}

func TestDeskManyLines(t *testing.T) {
	all := func(lines ...[]string) string { return strings.Join(slices.Concat(lines...), "\n") }
	some := func(count int, line string) []string { return slices.Repeat([]string{line}, count) }
	many := func(count int) string { return strings.Repeat("0 1 0\n", count) }
	for _, c := range []struct{ what, script, want string }{
		{"199", all(some(199, "many")), many(199)},
		{"200", all(some(200, "many")), many(200)},
		{"200, and a newline", all(some(200, "many")) + "\n", many(200)},
		{"200, and empty ones", all(some(200, "many"), some(100, "")), many(200)},
		{"200, and spaces", all(some(200, "many"), some(50, "  ")), many(200)},
		{"201", all(some(201, "many")), many(200) + "full\n"},
		{"202", all(some(202, "many")), many(200) + "full\n"},
		{"many more", all(some(3000, "many")), many(200) + "full\n"},
		{"200, an empty one, and one", all(some(200, "many"), some(1, ""), some(1, "many")), many(200) + "full\n"},
		{"200, and one that is none", all(some(200, "many"), some(1, "fly")), many(200) + "full\n"},
		{"empty ones alone", all(some(5000, "")), ""},
		{"199 empty ones, and one", all(some(199, ""), some(1, "many")), many(1)},
		{"200 empty ones, and one", all(some(200, ""), some(1, "many")), "full\n"},
		{"200 of spaces, and one", all(some(200, " "), some(1, "many")), "full\n"},
		{"one, empty ones, and one at the last place", all(some(1, "many"), some(198, ""), some(1, "many")), many(2)},
		{"one, empty ones, and one behind the last place", all(some(1, "many"), some(199, ""), some(1, "many")), many(1) + "full\n"},
		{"each second one empty", all(slices.Repeat([]string{"", "many"}, 150)), many(100) + "full\n"},
		{"200 that are none", all(some(201, "fly")), strings.Repeat("what\n", 200) + "full\n"},
		{"what is done at the last place", all(some(198, ""), some(1, "file /a"), some(1, "many")), "fine\n1 1 0\n"},
		{"what is not done behind it", all(some(199, ""), some(1, "file /a"), some(1, "many")), "fine\nfull\n"},
	} {
		if got := impl.DeskRun(c.script); got != c.want {
			t.Errorf("%s: it answers %.80q .. of %d bytes; want %.80q .. of %d bytes", c.what, got, len(got), c.want, len(c.want))
		}
		wantRunAsModel(t, c.script)
	}
}

// wideSetUp is lines behind which some others have long answers.
func wideSetUp() []string {
	lines := []string{"dir /aaaa", "dir /aaaa/bbbb", "dir /aaaa/bbbb/cccc", "dir /aaaa/bbbb/cccc/dddd", "file /aaaa/bbbb/cccc/dddd/eeee", "text /aaaa/bbbb/cccc/dddd/eeee abcdef", "dir /f"}
	for i := range 30 {
		lines = append(lines, fmt.Sprintf("link /aaaa/bbbb/cccc/dddd/eeee /aaaa/bbbb/cccc/dddd/f%c%cf", 'a'+i/26, 'a'+i%26))
	}
	for i := range 7 {
		lines = append(lines, fmt.Sprintf("link /aaaa/bbbb/cccc/dddd/eeee /f/%c", 'a'+i))
	}
	return append(lines, "keep 0")
}

// answering is lines that, with those ahead, answer just so many bytes. The longest answer comes last, so that no more than DeskMaxOut bytes are answered ahead of it.
func answering(t *testing.T, ahead []string, bytes int) []string {
	t.Helper()
	script := strings.Join(ahead, "\n")
	pool := []string{"show", "back", "pick /f", "pick /aaaa/bbbb/cccc/dddd", "pick /", "many", "fly", "keep 10", "tape 300", "chain"}
	sizes := map[string]int{}
	for _, line := range pool {
		sizes[line] = len(behind(t, script, line))
	}
	left := bytes - len(impl.DeskRun(script))
	// For each number of bytes, how few lines answer just as many, and the last of these.
	fewest, last := make([]int, left+1), make([]string, left+1)
	for n := 1; n <= left; n++ {
		fewest[n] = 1 << 20
		for _, line := range pool {
			if size := sizes[line]; size <= n && fewest[n-size]+1 < fewest[n] {
				fewest[n], last[n] = fewest[n-size]+1, line
			}
		}
	}
	var lines []string
	for n := left; n > 0; n -= sizes[last[n]] {
		lines = append(lines, last[n])
	}
	slices.SortStableFunc(lines, func(a, b string) int { return sizes[a] - sizes[b] })
	lines = slices.Concat(ahead, lines)
	if got := len(impl.DeskRun(strings.Join(lines, "\n"))); len(lines) > 190 || got != bytes {
		t.Fatalf("%d lines answer %d bytes; want %d", len(lines), got, bytes)
	}
	return lines
}

func TestDeskManyBytesAnswered(t *testing.T) {
	ahead := wideSetUp()
	for _, bytes := range []int{59900, 59999, 60000, 60001, 60002, 60100} {
		script := strings.Join(answering(t, ahead, bytes), "\n")
		first := impl.DeskRun(script)
		rest := map[string]string{"": "", "\n": "", "\n\n  \n": "", "\nfly": "what\n", "\n\n \n fly \n\n": "what\n", "\nmany": behind(t, strings.Join(ahead, "\n"), "many"), "\nshow": behind(t, strings.Join(ahead, "\n"), "show")}
		for more, want := range rest {
			if bytes > 60000 && want != "" {
				want = "full\n"
			}
			if got := impl.DeskRun(script + more); got != first+want {
				t.Errorf("%d bytes, and %q: %d bytes are answered, and at the end %.100q; want %.100q", bytes, more, len(got), strings.TrimPrefix(got, first), want)
			}
			wantRunAsModel(t, script+more)
		}
		// An answer that goes beyond comes whole, and nothing is done behind it.
		want := first + "full\n"
		if bytes <= 60000 {
			want = first + rest["\nshow"] + "full\n"
		}
		for _, more := range []string{"\nshow\nmany", "\nshow\nfile /new\nshow\nshow", "\nshow\n\n\n\nfly\nfly\n"} {
			if bytes == 59900 && len(rest["\nshow"]) < 101 {
				t.Fatalf("show answers only %d bytes", len(rest["\nshow"]))
			}
			if got := impl.DeskRun(script + more); got != want {
				t.Errorf("%d bytes, and %q: %d bytes are answered; want %d", bytes, more, len(got), len(want))
			}
		}
	}
}

// As much as a script can answer.
func TestDeskLongestAnswer(t *testing.T) {
	script := strings.Join(slices.Concat(wideSetUp(), slices.Repeat([]string{"show"}, 150)), "\n")
	got := wantRunAsModel(t, script)
	if len(got) < 60000 || !strings.HasSuffix(got, "end\nfull\n") {
		t.Errorf("%d bytes are answered, and at the end %.40q", len(got), got[len(got)-40:])
	}
}

// deskScripts is scripts that have not much to do with each other.
func deskScripts() []string {
	return []string{"", "many", "show\nback\nchain\npick /\ntape 5", exampleScript, setUp, notKept, setUp + "\nshow\nback\nchain\ntape 20", "fly\n\nkeep x", strings.Repeat("keep 3\n", 25) + "chain", strings.Repeat("x", 20001), strings.Repeat("many\n", 201), "keep 0\nkeep 9\nback", "file /a\ntext /a \xff\nshow", strings.Join(wideSetUp(), "\n") + "\nshow\ntape 100"}
}

// One call leaves nothing to the next, nor to one beside it.
func TestDeskKeepsNothing(t *testing.T) {
	all := deskScripts()
	var want []string
	for _, script := range all {
		want = append(want, modelRun(script))
	}
	for i, script := range all {
		for j, other := range all {
			if first, second := impl.DeskRun(script), impl.DeskRun(other); first != want[i] || second != want[j] {
				t.Fatalf("%.200q, and behind it %.200q, answer\n%sand\n%s", script, other, first, second)
			}
		}
	}
	var beside sync.WaitGroup
	for i := range 8 * len(all) {
		beside.Go(func() {
			if got := impl.DeskRun(all[i%len(all)]); got != want[i%len(all)] {
				t.Errorf("beside others, %.200q answers\n%s", all[i%len(all)], got)
			}
		})
	}
	beside.Wait()
}

func TestDeskAnswersAreNewMemory(t *testing.T) {
	for _, script := range append(deskScripts(), "0", "/", "what", "show", "none\n", "dir", "text /a what", "pick /") {
		own := strings.Clone(script)
		first, second := impl.DeskRun(own), impl.DeskRun(own)
		if sharesBytes(first, own) {
			t.Errorf("the answer to %.200q shares memory with the script", script)
		}
		if first != second || own != script {
			t.Errorf("%.200q answers\n%sand\n%s", script, first, second)
		}
	}
}

// What a script answers begins with what its first lines answer, cut behind any of them, and ends with what the others answer behind these.
func TestDeskFirstLines(t *testing.T) {
	for _, script := range deskScripts() {
		if len(script) > 20000 {
			continue
		}
		all := impl.DeskRun(script)
		lines := strings.Split(script, "\n")
		told := ""
		for i, line := range lines {
			answer := behind(t, strings.Join(lines[:i], "\n"), line)
			told += answer
			if !strings.HasPrefix(all, told) {
				t.Fatalf("the first %d lines of %q answer\n%sand all of them\n%s", i+1, script, told, all)
			}
		}
		if told != all {
			t.Errorf("line by line, %.200q answers\n%swant\n%s", script, told, all)
		}
	}
}
