package tests

import (
	"fmt"
	"regexp"
	"slices"
	"strconv"
	"strings"
	"testing"

	"loop.example/cellarage/impl"
)

// modelForms is the lines of a script, by patterns that fit nothing else.
var modelForms = []*regexp.Regexp{
	modelForm(`(dir|file|drop|pick) +WAY`),
	modelForm(`(text) +WAY +([^ ]+)`),
	modelForm(`(link|move) +WAY +WAY`),
	modelForm(`(show|many|chain|back)`),
	modelForm(`(keep|tape) +(0|-?[1-9][0-9]{0,16})`),
}

func modelForm(pattern string) *regexp.Regexp {
	return regexp.MustCompile(`\A *` + strings.ReplaceAll(pattern, "WAY", `(/|(?:/[a-z]{1,4}){1,5})`) + ` *\z`)
}

// modelDesk is a desk that is asked by the models of the other chapters alone.
type modelDesk struct {
	x      impl.Tree
	levels []int
	dumps  []impl.Dump
	book   []impl.Entry
}

// modelRun tells DeskRun by other means.
func modelRun(text string) string {
	if len(text) > 20000 {
		return "long\n"
	}
	m := modelDesk{x: tree(1, dir(1))}
	told := ""
	for i, line := range strings.Split(text, "\n") {
		if strings.ReplaceAll(line, " ", "") == "" {
			continue
		}
		if i > 199 || len(told) > 60000 {
			return told + "full\n"
		}
		told += m.answer(line) + "\n"
	}
	return told
}

// answer tells what a line answers, but the newline at its end.
func (m *modelDesk) answer(line string) string {
	for _, form := range modelForms {
		words := form.FindStringSubmatch(line)
		if words == nil {
			continue
		}
		switch words[1] {
		case "dir":
			return m.do(newDir(words[2]))
		case "file":
			return m.do(newFile(words[2]))
		case "text":
			return m.do(putText(words[2], words[3]))
		case "link":
			return m.do(link(words[2], words[3]))
		case "move":
			return m.do(move(words[2], words[3]))
		case "drop":
			return m.do(drop(words[2]))
		case "pick":
			return m.pick(namesOf(words[2]))
		case "keep", "tape":
			number, err := strconv.ParseInt(words[2], 10, 64)
			if err != nil {
				panic(err)
			}
			if words[1] == "keep" {
				return m.keep(int(number))
			}
			return m.tape(int(number))
		default:
			return m.look(words[1])
		}
	}
	return "what"
}

func (m *modelDesk) do(d deed) string {
	x, code := modelDo(m.x, d)
	m.x = x
	return strings.Fields("fine none there full bad form")[code]
}

func (m *modelDesk) look(what string) string {
	lines := modelLines(m.x)
	switch what {
	case "many":
		counted := modelMany(m.x)
		return fmt.Sprintf("%d %d %d", counted[0], counted[1], counted[2])
	case "chain":
		lines = nil
		for _, place := range modelChain(m.levels) {
			lines = append(lines, fmt.Sprintf("%d %d", place, m.levels[place]))
		}
	case "back":
		y, code := m.back()
		if code != 0 {
			return "none"
		}
		lines = slices.Concat(modelLines(y), []string{"end"}, modelDiff(y, m.x))
	}
	return strings.Join(append(lines, "end"), "\n")
}

func (m *modelDesk) back() (impl.Tree, int) {
	var needed []impl.Dump
	for _, place := range modelChain(m.levels) {
		needed = append(needed, m.dumps[place])
	}
	return modelBackAll(needed)
}

func (m *modelDesk) keep(level int) string {
	book, ok := modelBookAdd(m.book, level, m.x.Now)
	if !ok || len(m.dumps) >= 20 {
		return "no"
	}
	d := modelDumpOf(m.x, modelBookBase(m.book, level))
	m.levels, m.dumps, m.book = append(m.levels, level), append(m.dumps, cloneDump(d)), book
	return modelDumpText(d) + "end"
}

func (m *modelDesk) pick(p []string) string {
	y, code := m.back()
	if code != 0 || modelFind(y, p) < 0 {
		return "none"
	}
	n := y.Nodes[modelFind(y, p)]
	if n.Kind == 1 {
		return "'" + n.Text + "'"
	}
	return strings.Join(append([]string{"dir"}, n.Names...), " ")
}

func (m *modelDesk) tape(size int) string {
	if len(m.dumps) == 0 {
		return "none"
	}
	all, ok := modelCut(modelDumpText(m.dumps[len(m.dumps)-1]), size)
	if !ok {
		return "no"
	}
	told := ""
	for _, v := range all {
		told += fmt.Sprintf("%d %d %d %d\n", v.Num, v.Of, v.Sum, len(v.Text))
	}
	return told + "end"
}

// wantRunAsModel asks that a script answers what the model answers.
func wantRunAsModel(t *testing.T, script string) string {
	t.Helper()
	got, want := impl.DeskRun(script), modelRun(script)
	if got != want {
		t.Fatalf("%.2000q answers\n%swant\n%s", script, got, want)
	}
	return got
}

// Each short script of some lines that get in each other's way.
func TestDeskEveryShortScript(t *testing.T) {
	seen := map[string]int{}
	for _, of := range []struct {
		most  int
		ahead string
		pool  []string
	}{
		{5, "", []string{"file /a", "drop /a", "keep 0", "keep 3", "keep 2", "back", "chain", "pick /a", "tape 9"}},
		{5, "", []string{"dir /a", "move /a /a/b", "keep 9", "keep 8", "keep 10", "pick /", "show", "many"}},
		{5, "file /b\n", []string{"text /b t", "link /b /c", "move /b /a/b", "drop /c", "dir /a", "keep 0", "keep 1", "back", "pick /c"}},
		{3, exampleScript + "\n", []string{"keep 0", "keep 2", "keep 1", "keep 3", "back", "chain", "drop /c", "link /home/b /c"}},
	} {
		eachScript(of.most, of.pool, func(script []string) {
			for answer := range strings.Lines(wantRunAsModel(t, of.ahead+strings.Join(script, "\n"))) {
				seen[answer]++
			}
		})
	}
	wantSeen(t, seen, "fine\n", "none\n", "there\n", "bad\n", "no\n", "end\n", "0 3\n", "1 2\n", "'t'\n", "/ dir\n", "/c as /b\n", "dir\n", "dir a\n")
}

// eachScript calls f with each script of up to so many of these lines.
func eachScript(most int, pool []string, f func(script []string)) {
	var add func(script []string)
	add = func(script []string) {
		f(script)
		if len(script) == most {
			return
		}
		for _, line := range pool {
			add(append(slices.Clone(script), line))
		}
	}
	add(nil)
}

// Each byte of some scripts is taken away, doubled, and others are put ahead of it and in its place.
func TestDeskEveryScriptNearby(t *testing.T) {
	signs := "01- \n/adx'\x00\t\r\xff"
	what := 0
	for _, script := range []string{
		exampleScript, "file /a\ntext /a b\nkeep 12\nkeep 1\ntape 10\npick /a", " show  \n\n  many\nkeep -1\nkeep 3\ntape -10\nback\ntape 21\nchain", "dir /a/b\ndir /a\nlink /a /b\ndrop /a/b\nkeep 0\npick /",
	} {
		textsNearby(script, signs, func(text string) {
			if strings.Contains("\n"+wantRunAsModel(t, text), "\nwhat\n") {
				what++
			}
		})
	}
	if what < 5000 {
		t.Errorf("only %d of these scripts had a line that is none", what)
	}
}

// line is a line that, mostly, can be done at this desk.
func (r *draw) line(m *modelDesk, lively int) string {
	wayOf := func(p []string) string { return "/" + strings.Join(p, "/") }
	if r.below(10) < lively {
		d := r.deed(m.x)
		switch d.what {
		case "new":
			return []string{"file ", "dir "}[d.kind%2] + wayOf(d.p)
		case "text":
			return "text " + wayOf(d.p) + " " + []string{"x", "abcdef", "abcdefg", "A", "/", "\xff"}[r.below(6)]
		case "drop":
			return "drop " + wayOf(d.p)
		}
		return d.what + " " + wayOf(d.p) + " " + wayOf(d.q)
	}
	number := strconv.Itoa
	switch r.below(16) {
	case 0, 1, 2, 3, 4:
		return "keep " + number(r.below(10))
	case 5:
		return "keep " + []string{"-1", "10", "01", "-0", "12345678901234567", "123456789012345678"}[r.below(6)]
	case 6, 7:
		return "back"
	case 8:
		return "chain"
	case 9, 10:
		return "pick " + wayOf(r.way(m.x))
	case 11:
		return "tape " + number(r.below(60)-2)
	case 12:
		return "show"
	case 13:
		return "many"
	case 14:
		return []string{"fly", "dir", "show all", "pick a", "link /a", "move /a/ /b", "tape x"}[r.below(7)]
	}
	return ""
}

// script is lines of which each is drawn as the desk is behind those ahead of it, with spaces put about them.
func (r *draw) script(lines, lively int) []string {
	m := modelDesk{x: tree(1, dir(1))}
	var all []string
	for range lines {
		line := r.line(&m, lively)
		if r.below(5) == 0 {
			line = strings.Repeat(" ", r.below(3)) + strings.ReplaceAll(line, " ", strings.Repeat(" ", 1+r.below(3))) + strings.Repeat(" ", r.below(3))
		}
		if strings.ReplaceAll(line, " ", "") != "" {
			m.answer(line)
		}
		all = append(all, line)
	}
	return all
}

// Scripts of any lines, short and long: each answers what the model answers, and begins with what its first lines answer.
func TestDeskAnyScript(t *testing.T) {
	r := draw(1000)
	seen := map[string]int{}
	for i := range 700 {
		lines := r.script(r.below(230), []int{2, 5, 8, 9}[i%4])
		script := strings.Join(lines, "\n")
		told := wantRunAsModel(t, script)
		for _, cut := range []int{r.below(len(lines) + 1), r.below(len(lines) + 1), len(lines)} {
			for _, end := range []string{"", "\n"} {
				first := strings.Join(lines[:cut], "\n") + end
				if got := impl.DeskRun(first); !strings.HasPrefix(told, got) {
					t.Fatalf("%q answers\n%sand all of\n%q answers\n%s", first, got, script, told)
				}
			}
		}
		for answer := range strings.Lines(told) {
			seen[answer]++
		}
	}
	wantSeen(t, seen, "fine\n", "none\n", "there\n", "full\n", "bad\n", "what\n", "no\n", "end\n", "/ dir\n", "dir\n")
}

// What was just kept is brought back as it is, also if it is kept again and again in one turn.
func TestDeskBackOfWhatWasJustKept(t *testing.T) {
	r := draw(1001)
	kept := 0
	for i := range 400 {
		lines := r.script(1+r.below(100), []int{3, 6, 9}[i%3])
		for range 1 + r.below(4) {
			lines = append(lines, "keep "+strconv.Itoa(r.below(10)))
			script := strings.Join(lines, "\n")
			told := impl.DeskRun(script)
			if strings.HasSuffix(told, "\nno\n") {
				break
			}
			kept++
			show := strings.TrimPrefix(impl.DeskRun(script+"\nshow"), told)
			back := strings.TrimPrefix(impl.DeskRun(script+"\nback"), told)
			if back != show+"end\n" {
				t.Fatalf("%q shows\n%sand brings back\n%s", script, show, back)
			}
		}
	}
	if kept < 500 {
		t.Errorf("only %d were kept", kept)
	}
}
