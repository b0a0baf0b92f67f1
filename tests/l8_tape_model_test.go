package tests

import (
	"fmt"
	"math/big"
	"regexp"
	"slices"
	"strconv"
	"strings"
	"testing"

	"loop.example/cellarage/impl"
)

// modelSum goes from the end on, by what each byte is worth there.
func modelSum(s string) int {
	sum, worth := 0, 1
	for i := len(s) - 1; i >= 0; i-- {
		sum = (sum + worth*(int(s[i])+1)) % 9973
		worth = worth * 31 % 9973
	}
	return sum
}

// modelWholeSum takes the whole SumBys away at the end alone, out of a number of any size.
func modelWholeSum(s string) int {
	whole := big.NewInt(0)
	for i := range len(s) {
		whole.Mul(whole, big.NewInt(31))
		whole.Add(whole, big.NewInt(int64(s[i])+1))
	}
	return int(whole.Mod(whole, big.NewInt(9973)).Int64())
}

func modelVolOk(v impl.Vol) bool {
	numbers := v.Of >= 1 && v.Of <= 40 && v.Num >= 1 && v.Num <= v.Of
	return numbers && len(v.Text) <= 2000 && v.Sum == modelSum(v.Text)
}

// modelCut takes one piece after the other off the text, and tells how many there are once all are there.
func modelCut(s string, size int) ([]impl.Vol, bool) {
	if len(s) > 2000 || size < 1 || size > 2000 {
		return nil, false
	}
	var all []impl.Vol
	for rest := s; ; {
		text := rest[:min(size, len(rest))]
		rest = rest[len(text):]
		all = append(all, impl.Vol{Num: len(all) + 1, Sum: modelSum(text), Text: text})
		if rest == "" {
			break
		}
	}
	for i := range all {
		all[i].Of = len(all)
	}
	return all, len(all) <= 40
}

// modelTogether holds each two pieces against each other.
func modelTogether(list []impl.Vol) bool {
	for _, a := range list {
		if !modelVolOk(a) {
			return false
		}
		for _, b := range list {
			if a.Of != b.Of || a.Num == b.Num && a != b {
				return false
			}
		}
	}
	return len(list) > 0
}

// modelJoin and modelLack look for each number, from 1 on, among all pieces.
func modelJoin(list []impl.Vol) (string, bool) {
	if !modelTogether(list) || len(modelLack(list)) > 0 {
		return "", false
	}
	text := ""
	for num := 1; num <= list[0].Of; num++ {
		i := slices.IndexFunc(list, func(v impl.Vol) bool { return v.Num == num })
		text += list[i].Text
	}
	if len(text) > 2000 {
		return "", false
	}
	return text, true
}

func modelLack(list []impl.Vol) []int {
	if !modelTogether(list) {
		return nil
	}
	var lack []int
	for num := 1; num <= list[0].Of; num++ {
		if !slices.ContainsFunc(list, func(v impl.Vol) bool { return v.Num == num }) {
			lack = append(lack, num)
		}
	}
	return lack
}

// modelVolText writes a piece, also one that is not ok.
func modelVolText(v impl.Vol) string {
	return fmt.Sprintf("vol %d %d %d\n%s", v.Num, v.Of, v.Sum, v.Text)
}

var modelVolHead = regexp.MustCompile(`\Avol ([1-9][0-9]*) ([1-9][0-9]*) (0|[1-9][0-9]*)\n`)

// modelVolRead reads the first line by a pattern that fits nothing else.
func modelVolRead(text string) (impl.Vol, bool) {
	head := modelVolHead.FindStringSubmatch(text)
	if head == nil {
		return impl.Vol{}, false
	}
	var numbers []int
	for _, digits := range head[1:] {
		n, err := strconv.ParseUint(digits, 10, 20)
		if err != nil {
			return impl.Vol{}, false
		}
		numbers = append(numbers, int(n))
	}
	v := impl.Vol{Num: numbers[0], Of: numbers[1], Sum: numbers[2], Text: text[len(head[0]):]}
	if !modelVolOk(v) {
		return impl.Vol{}, false
	}
	return v, true
}

// wantVolReadAsModel asks that a text is read as the model reads it.
func wantVolReadAsModel(t *testing.T, text string) (ok bool) {
	t.Helper()
	want, ok := modelVolRead(text)
	if !ok {
		wantNoVolRead(t, text)
		return false
	}
	wantVolRead(t, text, want)
	return true
}

// wantPiecesAsModel asks what pieces are joined to, and what lacks.
func wantPiecesAsModel(t *testing.T, list []impl.Vol) (ok bool, lack []int) {
	t.Helper()
	want, ok := modelJoin(list)
	if got, gotOk := impl.TapeJoin(list); got != want || gotOk != ok {
		t.Fatalf("TapeJoin = %q, %v; want %q, %v of\n%s", got, gotOk, want, ok, listedVols(list...))
	}
	lack = modelLack(list)
	if got := impl.TapeLack(list); !slices.Equal(got, lack) {
		t.Fatalf("TapeLack = %v; want %v of\n%s", got, lack, listedVols(list...))
	}
	return ok, lack
}

// anyText is a text of so many bytes, all bytes among them.
func (r *draw) anyText(size int) string {
	text := make([]byte, size)
	for i := range text {
		text[i] = byte(r.below(256))
	}
	return string(text)
}

func TestTapeSumOfEveryShortText(t *testing.T) {
	for a := range 256 {
		for b := range 256 {
			if got, want := impl.TapeSum(string([]byte{byte(a), byte(b)})), (31*(a+1)+b+1)%9973; got != want {
				t.Fatalf("TapeSum = %d; want %d of bytes %d and %d", got, want, a, b)
			}
		}
	}
	textsUpTo("\x00\t14a\x7f\x80\xff", 5, func(text string) {
		if got, want := impl.TapeSum(text), modelWholeSum(text); got != want || want != modelSum(text) {
			t.Fatalf("TapeSum = %d; want %d, and %d by the other model, of %q", got, want, modelSum(text), text)
		}
	})
}

func TestTapeSumOfLongTexts(t *testing.T) {
	r := draw(800)
	for size := range 300 {
		text := r.anyText(size)
		if got, want := impl.TapeSum(text), modelWholeSum(text); got != want {
			t.Errorf("TapeSum = %d; want %d of %q", got, want, text)
		}
	}
	for _, size := range []int{1999, 2000, 2001, 65536, 300000} {
		for _, text := range []string{strings.Repeat("\x00", size), strings.Repeat("\xff", size), strings.Repeat("a", size), r.anyText(size)} {
			if got, want := impl.TapeSum(text), modelSum(text); got != want {
				t.Errorf("TapeSum = %d; want %d of %d bytes", got, want, size)
			}
		}
	}
}

// wantCutAsModel asks the pieces of a text, and that they are joined to it, from the last one on, too.
func wantCutAsModel(t *testing.T, s string, size int) (ok bool) {
	t.Helper()
	want, ok := modelCut(s, size)
	if !ok {
		wantNotCut(t, s, size)
		return false
	}
	got, gotOk := impl.TapeCut(s, size)
	if !gotOk || !slices.Equal(got, want) {
		t.Fatalf("TapeCut = %v,\n%s\nwant\n%s\nof %d bytes by %d", gotOk, listedVols(got...), listedVols(want...), len(s), size)
	}
	wantJoined(t, "in order", got, s)
	slices.Reverse(got)
	wantJoined(t, "from the end", got, s)
	return true
}

func TestTapeCutEverySize(t *testing.T) {
	r := draw(801)
	cut, not := 0, 0
	ask := func(s string, size int) {
		if wantCutAsModel(t, s, size) {
			cut++
		} else {
			not++
		}
	}
	for bytes := range 130 {
		s := r.anyText(bytes)
		for size := -2; size <= 132; size++ {
			ask(s, size)
		}
	}
	for _, bytes := range []int{0, 1, 2, 39, 40, 41, 79, 80, 81, 999, 1000, 1001, 1959, 1960, 1961, 1999, 2000, 2001, 2002} {
		s := r.anyText(bytes)
		for size := -1; size <= 2003; size++ {
			ask(s, size)
		}
	}
	if cut < 10000 || not < 2000 {
		t.Errorf("%d were cut, and %d were not", cut, not)
	}
}

// Every list of a few pieces, of which some do not belong together, and some are not ok.
func TestTapeOfEveryShortList(t *testing.T) {
	pool := []impl.Vol{
		vol(1, 1, "a"), vol(1, 2, "a"), vol(1, 2, "\t\t4"), vol(1, 2, ""), vol(2, 2, "b"), vol(1, 3, "a"), vol(2, 3, "b"), vol(3, 3, ""), vol(3, 3, "c"),
		{}, {Num: 1, Of: 2, Sum: 97, Text: "a"}, {Num: 3, Of: 2, Sum: 98, Text: "a"},
	}
	joined, lacking, not := 0, 0, 0
	var grow func(list []impl.Vol)
	grow = func(list []impl.Vol) {
		ok, lack := wantPiecesAsModel(t, list)
		switch {
		case ok:
			joined++
		case len(lack) > 0:
			lacking++
		default:
			not++
		}
		if len(list) == 4 {
			return
		}
		for _, v := range pool {
			grow(append(slices.Clone(list), v))
		}
	}
	grow(nil)
	if joined < 100 || lacking < 100 || not < 10000 {
		t.Errorf("%d were joined, %d lack some, %d do not belong together", joined, lacking, not)
	}
}

// bend is another piece in some part.
func (r *draw) bend(v impl.Vol) impl.Vol {
	switch r.below(6) {
	case 0:
		v.Num += r.below(5) - 2
	case 1:
		v.Of += r.below(5) - 2
	case 2:
		v.Sum += r.below(5) - 2
	case 3:
		v.Sum += 9973 * (r.below(3) - 1)
	case 4:
		v.Text += r.anyText(r.below(2))
	default:
		v.Text = r.anyText(len(v.Text))
		v.Sum = modelSum(v.Text)
	}
	return v
}

// Pieces of any text come in any order, some of them again and again, some not at all, some bent.
func TestTapeOfAnyPieces(t *testing.T) {
	r := draw(802)
	seen := map[string]int{}
	for range 20000 {
		text := r.anyText(r.below(r.below(300) + 1))
		all, ok := impl.TapeCut(text, 1+r.below(40))
		if !ok {
			seen["not cut"]++
			continue
		}
		var list []impl.Vol
		for _, v := range all {
			if r.below(30) == 0 {
				continue
			}
			for range 1 + r.below(2)*r.below(4) {
				list = append(list, v)
			}
		}
		for i := len(list) - 1; i > 0; i-- {
			j := r.below(i + 1)
			list[i], list[j] = list[j], list[i]
		}
		if len(list) > 0 && r.below(4) == 0 {
			i := r.below(len(list))
			list[i] = r.bend(list[i])
		}
		ok, lack := wantPiecesAsModel(t, list)
		countPieces(list, len(all), ok, lack, seen)
	}
	for _, what := range []string{"not cut", "joined", "joined, one of them again", "joined, out of order", "one lacks", "many lack", "not together"} {
		if seen[what] < 300 {
			t.Errorf("%s: only %d times of %v", what, seen[what], seen)
		}
	}
}

// countPieces counts what is easily joined wrongly.
func countPieces(list []impl.Vol, of int, ok bool, lack []int, seen map[string]int) {
	switch {
	case ok:
		seen["joined"]++
		if len(list) > of {
			seen["joined, one of them again"]++
		}
		if !slices.IsSortedFunc(list, func(a, b impl.Vol) int { return a.Num - b.Num }) {
			seen["joined, out of order"]++
		}
	case len(lack) == 1:
		seen["one lacks"]++
	case len(lack) > 1:
		seen["many lack"]++
	default:
		seen["not together"]++
	}
}

// everyByte is a text of all bytes.
func everyByte() string {
	var all []byte
	for b := range 256 {
		all = append(all, byte(b))
	}
	return string(all)
}

// Each byte of a piece's text is left out, and each one is put in its place and ahead of it.
func TestVolReadEveryTextNearby(t *testing.T) {
	read, not := 0, 0
	near := func(text string) {
		t.Helper()
		if wantVolReadAsModel(t, text) {
			read++
		} else {
			not++
		}
	}
	for _, v := range volsToWrite() {
		if text := impl.VolText(v); len(text) <= 60 {
			textsNearby(text, everyByte(), near)
		}
	}
	if read < 300 || not < 30000 {
		t.Errorf("%d texts were read, and %d were not", read, not)
	}
}

func TestVolReadEveryShortText(t *testing.T) {
	read := 0
	textsUpTo("019 \na", 6, func(text string) {
		wantVolReadAsModel(t, text)
		if wantVolReadAsModel(t, "vol "+text) {
			read++
		}
		wantVolReadAsModel(t, "vol 1 1 "+text)
		wantVolReadAsModel(t, "vol 1 1 0"+text)
		wantVolReadAsModel(t, "vol 1 1 0\n"+text)
	})
	if read < 1 {
		t.Errorf("%d texts were read", read)
	}
}

// What was kept is cut, written piece by piece, read in another order, joined, and brought back.
func TestTapeOfWhatWasKept(t *testing.T) {
	r := draw(803)
	cut := 0
	for _, s := range stories() {
		all := turns(t, storyBase(t), s.deeds...)
		var back []impl.Dump
		for _, d := range chainOf(t, all...) {
			text := impl.DumpText(d)
			for _, size := range []int{1 + r.below(20), 7, 40, 2000} {
				list, ok := impl.TapeCut(text, size)
				if !ok {
					continue
				}
				cut++
				wantJoined(t, s.what, wantWritten(t, &r, list), text)
			}
			list, _ := impl.TapeCut(text, 20)
			joined, _ := impl.TapeJoin(wantWritten(t, &r, list))
			read, ok := impl.DumpRead(joined)
			if !ok || !impl.DumpSame(read, d) {
				t.Fatalf("%s: what was cut is\n%swant\n%s", s.what, listedDump(read), listedDump(d))
			}
			back = append(back, read)
		}
		wantBackAll(t, s.what, back, impl.BackFine, all[len(all)-1])
	}
	if cut < 200 {
		t.Errorf("only %d were cut", cut)
	}
}

// wantWritten writes each piece and reads it again, in another order.
func wantWritten(t *testing.T, r *draw, list []impl.Vol) []impl.Vol {
	t.Helper()
	var all []impl.Vol
	for _, v := range list {
		text := impl.VolText(v)
		wantVolRead(t, text, v)
		read, _ := impl.VolRead(text)
		all = slices.Insert(all, r.below(len(all)+1), read)
	}
	return all
}
