package tests

import (
	"fmt"
	"math"
	"slices"
	"strings"
	"testing"

	"loop.example/cellarage/impl"
)

// vol is a piece with the sum of its text.
func vol(num, of int, text string) impl.Vol {
	return impl.Vol{Num: num, Of: of, Sum: modelSum(text), Text: text}
}

// vols is all pieces of these texts.
func vols(texts ...string) []impl.Vol {
	var list []impl.Vol
	for i, text := range texts {
		list = append(list, vol(i+1, len(texts), text))
	}
	return list
}

// listedVols tells pieces apart in every part, the first of them if there are very many.
func listedVols(list ...impl.Vol) string {
	var b strings.Builder
	for _, v := range list[:min(len(list), 100)] {
		fmt.Fprintf(&b, "%d of %d, sum %d, text %q\n", v.Num, v.Of, v.Sum, v.Text)
	}
	fmt.Fprintf(&b, "%d pieces", len(list))
	return b.String()
}

// eachOrder calls f with these pieces in every order.
func eachOrder(list []impl.Vol, f func(list []impl.Vol)) {
	if len(list) == 0 {
		f(nil)
		return
	}
	eachOrder(list[1:], func(others []impl.Vol) {
		for at := range len(others) + 1 {
			f(slices.Insert(slices.Clone(others), at, list[0]))
		}
	})
}

// wantJoined asks that pieces are joined to a text, and that none lacks.
func wantJoined(t *testing.T, what string, list []impl.Vol, want string) {
	t.Helper()
	if got, ok := impl.TapeJoin(list); !ok || got != want {
		t.Errorf("%s: TapeJoin = %q, %v; want %q of\n%s", what, got, ok, want, listedVols(list...))
	}
	if got := impl.TapeLack(list); len(got) != 0 {
		t.Errorf("%s: TapeLack = %v; want none of\n%s", what, got, listedVols(list...))
	}
}

// wantLack asks that just these lack, and that nothing is joined; wantNotTogether that pieces do not belong together.
func wantLack(t *testing.T, what string, list []impl.Vol, want ...int) {
	t.Helper()
	if got := impl.TapeLack(list); !slices.Equal(got, want) {
		t.Errorf("%s: TapeLack = %v; want %v of\n%s", what, got, want, listedVols(list...))
	}
	wantNotJoined(t, what, list)
}

func wantNotTogether(t *testing.T, what string, list []impl.Vol) {
	t.Helper()
	wantLack(t, what, list)
}

func wantNotJoined(t *testing.T, what string, list []impl.Vol) {
	t.Helper()
	if got, ok := impl.TapeJoin(list); ok || got != "" {
		t.Errorf("%s: TapeJoin = %q, %v; want none of\n%s", what, got, ok, listedVols(list...))
	}
}

// wantCut asks for the pieces of a text, and that they come to it again; wantNotCut for none and false.
func wantCut(t *testing.T, what string, s string, size int, want ...impl.Vol) {
	t.Helper()
	got, ok := impl.TapeCut(s, size)
	if !ok || !slices.Equal(got, want) {
		t.Errorf("%s: TapeCut = %v,\n%s\nwant\n%s\nof %q by %d", what, ok, listedVols(got...), listedVols(want...), s, size)
	}
	for _, v := range got {
		wantVolOk(t, what, v)
	}
	wantJoined(t, what, got, s)
}

func wantNotCut(t *testing.T, s string, size int) {
	t.Helper()
	if got, ok := impl.TapeCut(s, size); ok || len(got) != 0 {
		t.Errorf("TapeCut = %v,\n%s\nwant none of %d bytes by %d", ok, listedVols(got...), len(s), size)
	}
}

// wantVolOk asks all that hangs on a piece that is ok, and wantVolNotOk on one that is not.
func wantVolOk(t *testing.T, what string, v impl.Vol) {
	t.Helper()
	if !impl.VolOk(v) {
		t.Errorf("%s: VolOk = false of %s", what, listedVols(v))
	}
	text := modelVolText(v)
	if got := impl.VolText(v); got != text {
		t.Errorf("%s: VolText = %q; want %q", what, got, text)
	}
	wantVolRead(t, text, v)
}

func wantVolNotOk(t *testing.T, what string, v impl.Vol) {
	t.Helper()
	if impl.VolOk(v) {
		t.Errorf("%s: VolOk = true of %s", what, listedVols(v))
	}
	if got := impl.VolText(v); got != "" {
		t.Errorf("%s: VolText = %q of %s", what, got, listedVols(v))
	}
	wantNoVolRead(t, modelVolText(v))
	wantNotTogether(t, what, []impl.Vol{v})
	wantNotTogether(t, what+", twice", []impl.Vol{v, v})
	for _, good := range []impl.Vol{vol(1, 1, ""), vol(1, 2, "a"), vol(2, 2, "b"), vol(1, 40, "a")} {
		wantNotTogether(t, what+", behind another", []impl.Vol{good, v})
		wantNotTogether(t, what+", ahead of another", []impl.Vol{v, good})
		wantNotTogether(t, what+", between others", []impl.Vol{good, v, good})
	}
}

func wantVolRead(t *testing.T, text string, want impl.Vol) {
	t.Helper()
	if got, ok := impl.VolRead(text); !ok || got != want {
		t.Errorf("VolRead(%q) = %v, %s; want %s", text, ok, listedVols(got), listedVols(want))
	}
}

func wantNoVolRead(t *testing.T, text string) {
	t.Helper()
	if got, ok := impl.VolRead(text); ok || got != (impl.Vol{}) {
		t.Errorf("VolRead(%q) = %v, %s; want nothing", text, ok, listedVols(got))
	}
}

func TestTapeBounds(t *testing.T) {
	if got, want := [3]int{impl.TapeMost, impl.VolMost, impl.SumBy}, [3]int{2000, 40, 9973}; got != want {
		t.Errorf("bounds are %v; want %v", got, want)
	}
}

func TestTapeSum(t *testing.T) {
	for text, want := range map[string]int{
		"": 0, "a": 98, "b": 99, "g": 104, "\n": 11, " ": 33, "ab": 3137, "ba": 3167, "abc": 7590, "hello": 7653,
		"\x00": 1, "\x00\x00": 32, "\x00\x00\x00": 993, "\x00\x00\x00\x00": 865, "\xff": 256, "\xff\xff": 8192, "\xff\xff\xff": 4883, "\x00\xff": 287, "\xff\x00": 7937,
		// The number comes just below SumBy, to it, and above; and so to twice as much.
		"\t\t3": 9972, "\t\t4": 0, "\t\t5": 1, "\x13\x15\x2a": 9972, "\x13\x15\x2b": 0, "\x13\x15\x2c": 1, "\t\t4a": 98, "\t\t3\x00": 9943,
		// By bytes, whether they are letters of UTF-8 or none.
		"ä": 6241, "\xc3": 196, "\xa4": 165, "\xa4\xc3": 5311, "\xc3a": 6174, "\x80": 129, "\xed\xa0\x80": 4459,
	} {
		if got := impl.TapeSum(text); got != want {
			t.Errorf("TapeSum(%q) = %d; want %d", text, got, want)
		}
		if modelSum(text) != want || modelWholeSum(text) != want {
			t.Errorf("the models' sums of %q are %d and %d; want %d", text, modelSum(text), modelWholeSum(text), want)
		}
	}
	for b := range 256 {
		if got := impl.TapeSum(string([]byte{byte(b)})); got != b+1 {
			t.Errorf("TapeSum = %d of byte %d", got, b)
		}
	}
}

// As SumBy is a prime above 255, a text in which one byte is another has another sum, wherever that byte stands.
func TestTapeSumOfTextsNearby(t *testing.T) {
	text := "what was \x00 kept \xff\xfe\n"
	for at := range len(text) {
		for b := range 256 {
			other := text[:at] + string([]byte{byte(b)}) + text[at+1:]
			got, same := impl.TapeSum(other), text == other
			if got != modelSum(other) || (got == impl.TapeSum(text)) != same {
				t.Errorf("TapeSum(%q) = %d; want %d", other, got, modelSum(other))
			}
		}
	}
}

func TestVolOk(t *testing.T) {
	for what, v := range map[string]impl.Vol{
		"the only one":                     vol(1, 1, "abc"),
		"the only one, of nothing":         vol(1, 1, ""),
		"the first of two":                 vol(1, 2, "abc"),
		"the last of two":                  vol(2, 2, "abc"),
		"the first of VolMost":             vol(1, 40, "abc"),
		"one of VolMost":                   vol(17, 40, "abc"),
		"the last but one of VolMost":      vol(39, 40, "abc"),
		"the last of VolMost":              vol(40, 40, "abc"),
		"the last of one less":             vol(39, 39, "abc"),
		"a Text of TapeMost bytes":         vol(1, 1, strings.Repeat("\xff", 2000)),
		"a Text of one less":               vol(1, 1, strings.Repeat("z", 1999)),
		"a Text of TapeMost, in letters":   vol(3, 7, strings.Repeat("ä", 1000)),
		"a Text of bytes that are no text": vol(3, 7, "\x00\xff\xfe\xc3"),
		"a Text of one byte":               vol(3, 7, "\x00"),
		"a Sum of 0 of a Text":             vol(3, 7, "\t\t4"),
		"the greatest Sum":                 vol(3, 7, "\t\t3"),
		"a Sum written out":                {Num: 3, Of: 3, Sum: 104, Text: "g"},
	} {
		wantVolOk(t, what, v)
	}
	for of := 1; of <= 40; of++ {
		for num := 1; num <= of; num++ {
			wantVolOk(t, "each number", vol(num, of, "x"))
		}
	}
}

func TestVolNotOk(t *testing.T) {
	sum := modelSum("abc")
	for what, v := range map[string]impl.Vol{
		"nothing":                          {},
		"an Of of 0":                       vol(1, 0, "abc"),
		"an Of and a Num of 0":             vol(0, 0, "abc"),
		"an Of below 0":                    vol(1, -1, "abc"),
		"an Of and a Num below 0":          vol(-1, -1, "abc"),
		"an Of far below 0":                vol(1, math.MinInt, "abc"),
		"an Of of one more":                vol(1, 41, "abc"),
		"an Of and a Num of one more":      vol(41, 41, "abc"),
		"an Of far above VolMost":          vol(1, math.MaxInt, "abc"),
		"an Of and a Num far above":        vol(math.MaxInt, math.MaxInt, "abc"),
		"an Of that is a byte more":        vol(1, 257, "abc"),
		"a Num of 0":                       vol(0, 2, "abc"),
		"a Num of 0 of one":                vol(0, 1, ""),
		"a Num below 0":                    vol(-1, 2, "abc"),
		"a Num far below 0":                vol(math.MinInt, 2, "abc"),
		"a Num of one more than Of":        vol(3, 2, "abc"),
		"a Num of one more than one":       vol(2, 1, "abc"),
		"a Num of one more than VolMost":   vol(41, 40, "abc"),
		"a Num far above Of":               vol(math.MaxInt, 2, "abc"),
		"a Text of one byte too many":      vol(1, 1, strings.Repeat("a", 2001)),
		"a Text of a letter too many":      vol(1, 1, strings.Repeat("a", 1999)+"ä"),
		"a Text far too long":              vol(1, 1, strings.Repeat("a", 100000)),
		"a Sum one above":                  {Num: 1, Of: 2, Sum: sum + 1, Text: "abc"},
		"a Sum one below":                  {Num: 1, Of: 2, Sum: sum - 1, Text: "abc"},
		"a Sum of 0":                       {Num: 1, Of: 2, Sum: 0, Text: "abc"},
		"a Sum below 0":                    {Num: 1, Of: 2, Sum: -sum, Text: "abc"},
		"a Sum far below 0":                {Num: 1, Of: 2, Sum: math.MinInt, Text: "abc"},
		"a Sum far above":                  {Num: 1, Of: 2, Sum: math.MaxInt, Text: "abc"},
		"a Sum of SumBy more":              {Num: 1, Of: 2, Sum: sum + 9973, Text: "abc"},
		"a Sum of SumBy less":              {Num: 1, Of: 2, Sum: sum - 9973, Text: "abc"},
		"a Sum that wraps round in a word": {Num: 1, Of: 2, Sum: sum + 1<<32, Text: "abc"},
		"a Sum of nothing, one above":      {Num: 1, Of: 1, Sum: 1},
		"a Sum of nothing, one below":      {Num: 1, Of: 1, Sum: -1},
		"a Sum of nothing, of SumBy":       {Num: 1, Of: 1, Sum: 9973},
		"a Sum of 0, of SumBy":             {Num: 1, Of: 1, Sum: 9973, Text: "\t\t4"},
		"a Sum of 0, one below":            {Num: 1, Of: 1, Sum: -1, Text: "\t\t4"},
		"the greatest Sum, one above":      {Num: 1, Of: 1, Sum: 9973, Text: "\t\t3"},
		"a Sum of another Text":            {Num: 1, Of: 2, Sum: sum, Text: "abd"},
		"a Sum of a Text the other way":    {Num: 1, Of: 2, Sum: sum, Text: "cba"},
		"a Sum of a Text without its end":  {Num: 1, Of: 2, Sum: sum, Text: "ab"},
		"a Sum of a Text, and Text lost":   {Num: 1, Of: 2, Sum: sum},
		"a Sum of a Text with a newline":   {Num: 1, Of: 2, Sum: sum, Text: "abc\n"},
		"the Sum of 2000 bytes of 2001":    {Num: 1, Of: 2, Sum: modelSum(strings.Repeat("a", 2000)), Text: strings.Repeat("a", 2001)},
	} {
		wantVolNotOk(t, what, v)
	}
}

func TestTapeCut(t *testing.T) {
	wantCut(t, "by three", "abcdefg", 3, vol(1, 3, "abc"), vol(2, 3, "def"), impl.Vol{Num: 3, Of: 3, Sum: 104, Text: "g"})
	wantCut(t, "just by three", "abcdef", 3, vol(1, 2, "abc"), vol(2, 2, "def"))
	wantCut(t, "one less", "abcde", 3, vol(1, 2, "abc"), vol(2, 2, "de"))
	wantCut(t, "by one", "abc", 1, vol(1, 3, "a"), vol(2, 3, "b"), vol(3, 3, "c"))
	wantCut(t, "by its size", "abc", 3, vol(1, 1, "abc"))
	wantCut(t, "by one less than its size", "abc", 2, vol(1, 2, "ab"), vol(2, 2, "c"))
	wantCut(t, "by more than its size", "abc", 4, vol(1, 1, "abc"))
	wantCut(t, "by TapeMost", "abc", 2000, vol(1, 1, "abc"))
	wantCut(t, "one byte by one", "\x00", 1, vol(1, 1, "\x00"))
	wantCut(t, "the same again and again", "ababab", 2, vol(1, 3, "ab"), vol(2, 3, "ab"), vol(3, 3, "ab"))
	wantCut(t, "between bytes of a letter", "aä", 2, vol(1, 2, "a\xc3"), vol(2, 2, "\xa4"))
	wantCut(t, "newlines and spaces", "a\n \n' b", 2, vol(1, 4, "a\n"), vol(2, 4, " \n"), vol(3, 4, "' "), vol(4, 4, "b"))
	wantCut(t, "a sum of 0", "\t\t4\t\t3", 3, impl.Vol{Num: 1, Of: 2, Sum: 0, Text: "\t\t4"}, impl.Vol{Num: 2, Of: 2, Sum: 9972, Text: "\t\t3"})
}

func TestTapeCutOfNothing(t *testing.T) {
	for _, size := range []int{1, 2, 5, 40, 1999, 2000} {
		wantCut(t, "nothing", "", size, impl.Vol{Num: 1, Of: 1})
	}
	for _, size := range []int{math.MinInt, -2000, -1, 0, 2001, math.MaxInt} {
		wantNotCut(t, "", size)
	}
}

func TestTapeCutBounds(t *testing.T) {
	r := draw(810)
	most := r.anyText(2000)
	all := func(s string, size int) []impl.Vol {
		want, ok := modelCut(s, size)
		if !ok {
			t.Fatalf("the model does not cut %d bytes by %d", len(s), size)
		}
		return want
	}
	for _, size := range []int{50, 51, 52, 999, 1000, 1001, 1999, 2000} {
		wantCut(t, "TapeMost bytes", most, size, all(most, size)...)
	}
	wantCut(t, "VolMost pieces of one", most[:40], 1, all(most[:40], 1)...)
	wantCut(t, "VolMost pieces of two", most[:80], 2, all(most[:80], 2)...)
	wantCut(t, "VolMost pieces of two, one byte less", most[:79], 2, all(most[:79], 2)...)
	wantCut(t, "VolMost pieces of 49", most[:1960], 49, all(most[:1960], 49)...)
	wantCut(t, "VolMost pieces, the last of one byte", most[:1951], 50, all(most[:1951], 50)...)
	wantCut(t, "one piece less", most[:1950], 50, all(most[:1950], 50)...)
	for _, c := range []struct{ bytes, size, of int }{{40, 1, 40}, {80, 2, 40}, {79, 2, 40}, {1960, 49, 40}, {1951, 50, 40}, {1950, 50, 39}, {2000, 50, 40}, {2000, 1999, 2}} {
		if list, ok := impl.TapeCut(most[:c.bytes], c.size); !ok || len(list) != c.of {
			t.Errorf("%d bytes by %d are %d pieces, %v; want %d", c.bytes, c.size, len(list), ok, c.of)
		}
	}
	for _, c := range []struct{ bytes, size int }{{41, 1}, {81, 2}, {1961, 49}, {2000, 49}, {2000, 1}, {2000, 48}} {
		wantNotCut(t, most[:c.bytes], c.size)
	}
	for _, size := range []int{math.MinInt, math.MinInt + 1, -2000, -50, -1, 0, 2001, 2002, 4000, math.MaxInt - 1, math.MaxInt} {
		for _, bytes := range []int{0, 1, 40, 1999, 2000} {
			wantNotCut(t, most[:bytes], size)
		}
	}
	for _, size := range []int{math.MinInt, -1, 0, 1, 50, 51, 52, 1000, 1999, 2000, 2001, math.MaxInt} {
		wantNotCut(t, most+"a", size)
		wantNotCut(t, strings.Repeat(most, 100), size)
	}
}

// fewTexts is pieces of a few texts, some of them of nothing, and some the same.
func fewTexts() [][]string {
	return [][]string{{""}, {"a"}, {"ab", "c"}, {"", "a"}, {"a", ""}, {"", ""}, {"a", "a"}, {"abc", "def", "g"}, {"b", "a", "b"}, {"", "x", ""}, {"a\n", "vol 1 1 0\n", "\xff\x00", "'"}, {"d", "c", "", "b", "a"}, {"\t\t4", "", "\t\t4"}}
}

// Every order of a few pieces, each one twice, all twice, and each one left out.
func TestTapeJoinInEveryOrder(t *testing.T) {
	for _, texts := range fewTexts() {
		whole := strings.Join(texts, "")
		eachOrder(vols(texts...), func(list []impl.Vol) {
			wantJoined(t, "every order", list, whole)
			wantJoined(t, "all twice", append(slices.Clone(list), list...), whole)
			twice := slices.Clone(list)
			slices.Reverse(twice)
			wantJoined(t, "all twice, there and back", append(twice, list...), whole)
			for i, v := range list {
				for at := range len(list) + 1 {
					wantJoined(t, "one twice", slices.Insert(slices.Clone(list), at, v), whole)
				}
				wantJoined(t, "one very often", append(slices.Repeat([]impl.Vol{v}, 50), list...), whole)
				without := slices.Delete(slices.Clone(list), i, i+1)
				if len(without) == 0 {
					wantNotTogether(t, "the only one left out", without)
					continue
				}
				wantLack(t, "one left out", without, v.Num)
				wantLack(t, "one left out, all others twice", append(slices.Clone(without), without...), v.Num)
				if len(without) > 1 {
					wantLack(t, "two left out", without[1:], min(v.Num, without[0].Num), max(v.Num, without[0].Num))
				}
			}
		})
	}
}

// The pieces of a text of many, and of most, from the end on and crosswise.
func TestTapeJoinOfMany(t *testing.T) {
	r := draw(811)
	for _, c := range []struct{ bytes, size int }{{40, 1}, {2000, 50}, {1951, 50}, {300, 9}, {9, 1}, {101, 10}} {
		text := r.anyText(c.bytes)
		list, ok := impl.TapeCut(text, c.size)
		if !ok {
			t.Fatalf("%d bytes are not cut by %d", c.bytes, c.size)
		}
		for range 30 {
			for i := len(list) - 1; i > 0; i-- {
				j := r.below(i + 1)
				list[i], list[j] = list[j], list[i]
			}
			wantJoined(t, "shuffled", list, text)
			wantJoined(t, "shuffled, and all again", append(slices.Clone(list), list...), text)
			wantJoined(t, "shuffled, and some again", append(slices.Clone(list), list[:len(list)/2]...), text)
			wantLack(t, "shuffled, without the last", list[:len(list)-1], list[len(list)-1].Num)
		}
		wantJoined(t, "very often", slices.Repeat(list, 200), text)
		wantLack(t, "very often, without the last", slices.Repeat(list[:len(list)-1], 200), list[len(list)-1].Num)
	}
}

func TestTapeLack(t *testing.T) {
	wantNotTogether(t, "none", nil)
	wantNotTogether(t, "an empty list", []impl.Vol{})
	wantJoined(t, "the only one", vols("a"), "a")
	wantLack(t, "the first of two", vols("a", "b")[:1], 2)
	wantLack(t, "the last of two", vols("a", "b")[1:], 1)
	wantLack(t, "the middle one of three", vols("a", "b", "c")[1:2], 1, 3)
	wantLack(t, "nothing else of three", []impl.Vol{vol(2, 3, "")}, 1, 3)
	for of := 1; of <= 40; of++ {
		all := vols(strings.Split(strings.Repeat("x", of), "")...)
		wantJoined(t, "all", all, strings.Repeat("x", of))
		for i, v := range all {
			others := slices.Delete(slices.Clone(all), i, i+1)
			if of > 1 {
				wantLack(t, "one of many", others, v.Num)
			}
			var lack []int
			for _, other := range others {
				lack = append(lack, other.Num)
			}
			if of > 1 {
				wantLack(t, "all but one", []impl.Vol{v}, lack...)
				wantLack(t, "all but one, twice", []impl.Vol{v, v}, lack...)
			}
		}
	}
	even, odd := []impl.Vol{}, []int{}
	for num := 40; num >= 1; num-- {
		if num%2 == 0 {
			even = append(even, vol(num, 40, fmt.Sprint(num)))
		} else {
			odd = append([]int{num}, odd...)
		}
	}
	wantLack(t, "each second one, from the end on", even, odd...)
}

// Pieces that do not belong together, though each of them is ok.
func TestTapeNotTogether(t *testing.T) {
	if modelSum("\t\t4") != 0 || modelSum("\x13\x15\x2b") != 0 {
		t.Fatal("the test's own texts have not one sum")
	}
	abc, xyz := vols("a", "b", "c"), vols("x", "y", "z")
	for what, list := range map[string][]impl.Vol{
		"pieces of two texts":                  {abc[0], xyz[1], abc[1], abc[2]},
		"all pieces of two texts":              append(slices.Clone(abc), xyz...),
		"a piece of another text ahead":        append([]impl.Vol{xyz[2]}, abc...),
		"a piece of another text behind":       append(slices.Clone(abc), xyz[0]),
		"one Num with two Texts, one lacks":    {abc[0], xyz[0]},
		"one Num with two Texts of one Sum":    {vol(1, 1, "\t\t4"), vol(1, 1, "\x13\x15\x2b")},
		"one Num with nothing and a Sum of 0":  {vol(1, 1, ""), vol(1, 1, "\t\t4")},
		"one Num with two Texts, all there":    {vol(1, 2, ""), vol(2, 2, "b"), vol(1, 2, "\t\t4")},
		"one Num with two Texts, first again":  {vol(1, 2, "a"), vol(1, 2, "c"), vol(2, 2, "b"), vol(1, 2, "a")},
		"the last Num with two Texts":          {vol(1, 2, "a"), vol(2, 2, "b"), vol(2, 2, "c")},
		"one Num with two Texts, one longer":   {vol(1, 1, "a"), vol(1, 1, "a\x00")},
		"one Num with two Texts of two orders": {vol(1, 1, "ab"), vol(1, 1, "ba")},
		"two Ofs":                              {vol(1, 2, "a"), vol(2, 3, "b")},
		"two Ofs, the greater one ahead":       {vol(2, 3, "b"), vol(1, 2, "a")},
		"two Ofs, all of the lesser":           {vol(1, 2, "a"), vol(2, 2, "b"), vol(3, 3, "c")},
		"two Ofs, all of the greater":          {vol(1, 3, "a"), vol(2, 3, "b"), vol(3, 3, "c"), vol(1, 1, "a")},
		"two Ofs, one Num and Text":            {vol(1, 1, "a"), vol(1, 2, "a"), vol(2, 2, "b")},
		"two Ofs, all of both":                 {vol(1, 1, "ab"), vol(1, 2, "a"), vol(2, 2, "b")},
		"two Ofs far apart":                    {vol(1, 1, ""), vol(40, 40, "")},
		"one Num with two Sums":                {abc[0], {Num: 1, Of: 3, Sum: 97, Text: "a"}, abc[1], abc[2]},
		"one that is not ok among many":        {abc[0], abc[1], {Num: 3, Of: 3, Sum: 0, Text: "c"}},
		"one that is not ok, beside the right": {abc[0], abc[1], {Num: 3, Of: 3, Sum: 0, Text: "c"}, abc[2]},
		"nothing among many":                   {abc[0], {}, abc[1], abc[2]},
		"a Num above Of among many":            {abc[0], abc[1], abc[2], vol(4, 3, "d")},
		"a Num of 0 among many":                {vol(0, 3, ""), abc[0], abc[1], abc[2]},
		"all Sums of another one":              {{Num: 1, Of: 2, Sum: modelSum("b"), Text: "a"}, {Num: 2, Of: 2, Sum: modelSum("a"), Text: "b"}},
	} {
		if len(list) > 4 {
			wantNotTogether(t, what, list)
			slices.Reverse(list)
			wantNotTogether(t, what+", the other way", list)
			continue
		}
		eachOrder(list, func(list []impl.Vol) { wantNotTogether(t, what, list) })
	}
}

// Pieces that are each ok, and belong together, may come to more than a text has.
func TestTapeJoinOfTooMuch(t *testing.T) {
	bytes := func(sign string, size int) string { return strings.Repeat(sign, size) }
	for _, c := range []struct {
		what  string
		texts []string
		ok    bool
	}{
		{"one of TapeMost", []string{bytes("a", 2000)}, true},
		{"two halves", []string{bytes("a", 1000), bytes("b", 1000)}, true},
		{"two halves and nothing", []string{bytes("a", 1000), "", bytes("b", 1000)}, true},
		{"two halves and one more", []string{bytes("a", 1000), bytes("b", 1001)}, false},
		{"two halves and one more ahead", []string{bytes("a", 1001), bytes("b", 1000)}, false},
		{"nothing and TapeMost", []string{"", bytes("a", 2000)}, true},
		{"TapeMost and nothing", []string{bytes("\xff", 2000), ""}, true},
		{"one and TapeMost", []string{"b", bytes("a", 2000)}, false},
		{"TapeMost and one", []string{bytes("a", 2000), "b"}, false},
		{"one less and one", []string{bytes("a", 1999), "b"}, true},
		{"one less and a letter of two bytes", []string{bytes("a", 1999), "ä"}, false},
		{"VolMost of just as many", slices.Repeat([]string{bytes("a", 50)}, 40), true},
		{"VolMost and one more", append(slices.Repeat([]string{bytes("a", 50)}, 39), bytes("a", 51)), false},
		{"VolMost of TapeMost", slices.Repeat([]string{bytes("a", 2000)}, 40), false},
		{"two of TapeMost", []string{bytes("a", 2000), bytes("b", 2000)}, false},
	} {
		list := vols(c.texts...)
		for range 2 {
			slices.Reverse(list)
			// What comes twice is counted once.
			for _, list := range [][]impl.Vol{list, append(slices.Clone(list), list...), append(slices.Clone(list), list[0])} {
				if c.ok {
					wantJoined(t, c.what, list, strings.Join(c.texts, ""))
				} else {
					wantLack(t, c.what, list)
				}
			}
		}
		if len(list) > 1 {
			wantLack(t, c.what+", one lacks", list[1:], list[0].Num)
		}
	}
}

// What was bent in any byte of its Text, or in any number, is not taken, wherever it stands.
func TestTapeBent(t *testing.T) {
	list, _ := impl.TapeCut("what was kept\x00\xff\n", 6)
	for i, v := range list {
		refused := func(what string, bent impl.Vol) {
			t.Helper()
			with := slices.Clone(list)
			with[i] = bent
			wantNotJoined(t, what, with)
			wantNotJoined(t, what+", beside the right one", append(slices.Clone(list), bent))
			wantNotJoined(t, what+", ahead of the right one", append([]impl.Vol{bent}, list...))
		}
		for at := range len(v.Text) {
			for b := range 256 {
				bent := v
				bent.Text = v.Text[:at] + string([]byte{byte(b)}) + v.Text[at+1:]
				if bent != v {
					wantVolNotOk(t, "one byte changed", bent)
					refused("one byte changed", bent)
				}
			}
		}
		for by := -50; by <= 50; by++ {
			if by == 0 {
				continue
			}
			num, of, sum := v, v, v
			num.Num += by
			of.Of += by
			sum.Sum += by
			refused("another Num", num)
			refused("another Of", of)
			refused("another Sum", sum)
		}
	}
}

// volsToWrite is pieces that are ok, with what is easily read wrongly.
func volsToWrite() []impl.Vol {
	list := []impl.Vol{vol(1, 1, ""), vol(40, 40, ""), vol(1, 40, "a"), vol(9, 10, "b"), vol(10, 10, "c"), vol(3, 13, "\t\t4"), vol(2, 20, "\t\t3"), vol(12, 31, "\x00"), vol(1, 1, strings.Repeat("a", 2000)), vol(1, 2, strings.Repeat("\n", 2000)), vol(2, 2, strings.Repeat("\xff", 1999))}
	for _, text := range []string{"\n", "\n\n", "a\n", "\na", "a\nb\n", " ", "  ", " a", "a ", "1", "0", "007", "1 1 0", "'", "''", "'a'", "\"", "`", "\\n", "\r\n", "\t", "vol 1 1 0\n", "vol 1 1 0", "vol", "\x00", "\xff", "\xff\xfe", "\xc3", "a\xa4", "ä", "日本", "\xed\xa0\x80", "\ufffd", "\ufeff", "\U0010ffff", "\xf4\x90\x80\x80", "0 1 1\n0 1 dir\n", "-1", "+1"} {
		list = append(list, vol(2, 3, text))
	}
	return list
}

func TestVolText(t *testing.T) {
	for text, v := range map[string]impl.Vol{
		"vol 1 1 0\n":                {Num: 1, Of: 1},
		"vol 3 3 104\ng":             {Num: 3, Of: 3, Sum: 104, Text: "g"},
		"vol 40 40 98\na":            {Num: 40, Of: 40, Sum: 98, Text: "a"},
		"vol 1 2 11\n\n":             {Num: 1, Of: 2, Sum: 11, Text: "\n"},
		"vol 1 2 33\n ":              {Num: 1, Of: 2, Sum: 33, Text: " "},
		"vol 10 20 40\n'":            {Num: 10, Of: 20, Sum: 40, Text: "'"},
		"vol 2 9 7653\nhello":        {Num: 2, Of: 9, Sum: 7653, Text: "hello"},
		"vol 1 1 0\n\t\t4":           {Num: 1, Of: 1, Sum: 0, Text: "\t\t4"},
		"vol 1 1 9972\n\t\t3":        {Num: 1, Of: 1, Sum: 9972, Text: "\t\t3"},
		"vol 1 1 4883\n\xff\xff\xff": {Num: 1, Of: 1, Sum: 4883, Text: "\xff\xff\xff"},
		"vol 1 1 1\n\x00":            {Num: 1, Of: 1, Sum: 1, Text: "\x00"},
		"vol 5 6 6241\nä":            {Num: 5, Of: 6, Sum: 6241, Text: "ä"},
	} {
		if got := impl.VolText(v); got != text {
			t.Errorf("VolText = %q; want %q", got, text)
		}
		wantVolRead(t, text, v)
	}
	for _, v := range volsToWrite() {
		wantVolOk(t, "to write", v)
	}
	for b := range 256 {
		wantVolOk(t, "each byte", vol(1, 1, string([]byte{byte(b)})))
		wantVolOk(t, "each byte behind another", vol(1, 1, string([]byte{'a', byte(b)})))
	}
}

func TestVolReadNearlyAText(t *testing.T) {
	wantVolRead(t, "vol 1 1 0\n", vol(1, 1, ""))
	wantVolRead(t, "vol 12 34 98\na", vol(12, 34, "a"))
	for _, text := range []string{
		"", "\n", " ", "v", "vo", "vol", "vol ", "vol\n", "vol 1", "vol 1 1", "vol 1 1 ", "vol 1 1 0", "vol 1 1\n", "vol 1 1 \n", "vol 1\n", "vol \n", "vol 1 1 0 ", "vol 1 1 0 \n", "vol 1 1 0\r\n", "vol 1 1 0\x00\n", "vol 1 1 0 0\n", "vol 1 1 0 0", "vol 1 1\n0\n", "vol\n1 1 0\n", "vol 1\n1 0\n",
		" vol 1 1 0\n", "\nvol 1 1 0\n", "vol  1 1 0\n", "vol 1  1 0\n", "vol 1 1  0\n", "vol\t1 1 0\n", "vol 1\t1 0\n", "vol 1 1\t0\n", "vol1 1 0\n", "vol 11 0\n", "vol 1 10\n", "vol,1,1,0\n", "vol_1_1_0\n", "vol\u00a01 1 0\n", "vol 1\u00a01 0\n", "vol 1\u20031 0\n",
		"Vol 1 1 0\n", "VOL 1 1 0\n", "voll 1 1 0\n", "ol 1 1 0\n", "tape 1 1 0\n", "1 1 0\n", "\ufeffvol 1 1 0\n", "\xffvol 1 1 0\n", "vol vol 1 1 0\n", "'vol' 1 1 0\n",
		"vol 01 1 0\n", "vol 1 01 0\n", "vol 1 1 00\n", "vol 001 1 0\n", "vol 1 1 000000000000000000000000000000\n", "vol 00000000000000000000000000000001 1 0\n", "vol 1 00000000000000000000000000000001 0\n", "vol 12 34 098\na", "vol 12 034 98\na", "vol 012 34 98\na",
		"vol +1 1 0\n", "vol 1 +1 0\n", "vol 1 1 +0\n", "vol -1 1 0\n", "vol 1 -1 0\n", "vol 1 1 -0\n", "vol - 1 0\n", "vol 1 1 -\n", "vol 1 1 -1\n", "vol 12 34 +98\na", "vol 12 34 -98\na", "vol 1 1 0-\n", "vol 1. 1 0\n", "vol 1 1 0.0\n", "vol 1e0 1 0\n", "vol 0x1 1 0\n", "vol 1 0b1 0\n", "vol 1_ 1 0\n", "vol 1 1 0_0\n", "vol a 1 0\n", "vol 1 b 0\n", "vol 1 1 c\n", "vol １ 1 0\n", "vol 1 1 ０\n", "vol 1 １ 0\n", "vol ١ 1 0\n", "vol 1 1 0'\n", "vol '1' 1 0\n", "vol \xff 1 0\n", "vol 1 1 \xff\n", "vol 1\xff 1 0\n", "vol 1 1 0\xff\n", "vol 1 1 0\ufffd\n", "vol : 1 0\n", "vol 1 1 /\n", "vol 1 1 :\n", "vol 1 / 0\n",
		"vol 0 1 0\n", "vol 1 0 0\n", "vol 0 0 0\n", "vol 2 1 0\n", "vol 1 41 0\n", "vol 41 41 0\n", "vol 41 40 0\n", "vol 1 1 1\n", "vol 1 1 9972\n", "vol 1 1 9973\n", "vol 1 1 19946\n", "vol 12 34 97\na", "vol 12 34 99\na", "vol 12 34 10071\na", "vol 12 34 0\na", "vol 12 34 98\n", "vol 12 34 98\nb", "vol 12 34 98\naa", "vol 12 34 98\na\n", "vol 12 34 98\n\na", "vol 12 34 98\na ", "vol 12 34 98\n a", "vol 12 34 98a", "vol 12 34 98 a", "vol 12 34 98", "vol 12 34\n98\na", "vol 12 34 98\nA", "vol 1 1 0\n\x00", "vol 1 1 0\n\n", "vol 1 1 0\n ",
		// Numbers that, where they wrap round, come to fitting ones.
		"vol 257 1 0\n", "vol 1 257 0\n", "vol 65537 1 0\n", "vol 1 65537 0\n", "vol 1 1 65536\n", "vol 4294967297 1 0\n", "vol 1 4294967297 0\n", "vol 1 1 4294967296\n", "vol 18446744073709551617 1 0\n", "vol 1 18446744073709551617 0\n", "vol 1 1 18446744073709551616\n", "vol 12 34 18446744073709551714\na", "vol 12 18446744073709551650 98\na", "vol -18446744073709551615 1 0\n", "vol 1 1 340282366920938463463374607431768211456\n",
		"vol 9223372036854775807 9223372036854775807 0\n", "vol 9223372036854775808 1 0\n", "vol 1 1 9223372036854775808\n", "vol 99999999999999999999 1 0\n", "vol 1 99999999999999999999 0\n", "vol 1 1 99999999999999999999\n", "vol 1 1 99999999999999999999",
		"vol 1 1 0\nvol 1 1 0\n", "0 1 1\n", "/ dir\n", "end\n", "\xff\xfe", "vol 1 1 0\\n",
	} {
		wantNoVolRead(t, text)
		if _, ok := modelVolRead(text); ok {
			t.Errorf("the model reads %q", text)
		}
	}
}

func TestVolReadLongTexts(t *testing.T) {
	for _, sign := range []string{"a", "\n", " ", "0", "1", "\x00", "\xff", "ä", "vol 1 1 0\n"} {
		for _, size := range []int{1999, 2000, 2001, 100000} {
			long := strings.Repeat(sign, size)[:size]
			wantVolReadAsModel(t, modelVolText(vol(7, 9, long)))
			wantNoVolRead(t, long)
			wantNoVolRead(t, "vol "+long)
			wantNoVolRead(t, "vol 1"+long)
			wantNoVolRead(t, "vol 1 1 "+long)
			wantNoVolRead(t, "vol 1 1 1"+long+"\n")
			wantNoVolRead(t, "vol 1"+long+" 1 0\n")
			wantNoVolRead(t, "vol 1 "+long+" 0\n")
		}
	}
}

// roomyVols is pieces with texts of their own, and spare room, filled, behind them; all is all of it.
func roomyVols(given []impl.Vol) (list []impl.Vol, all []impl.Vol) {
	for _, v := range append(slices.Clone(given), vol(2, 3, "room"), vol(1, 1, "more"), impl.Vol{}) {
		v.Text = strings.Clone(v.Text)
		all = append(all, v)
	}
	return all[:len(given)], all
}

// volSpans is where pieces and their texts lie, those in the spare room too.
func volSpans(what string, list []impl.Vol) []span {
	all := []span{spanOf(what, list)}
	for i, v := range list[:cap(list)] {
		all = append(all, textSpan(fmt.Sprint(what, ", text ", i), v.Text))
	}
	return all
}

// memoryVols is pieces that are joined, that lack some, and that do not belong together, none of them in order.
func memoryVols() [][]impl.Vol {
	abc := vols("first", "", "third", "\xff\n")
	all := [][]impl.Vol{nil, {vol(1, 1, "")}, {vol(1, 1, "alone")}, {abc[3], abc[1], abc[2], abc[0]}, {abc[3], abc[0], abc[0], abc[2], abc[1], abc[3]}, {abc[2], abc[0]}, {abc[3], vol(1, 4, "other"), abc[0]}, {abc[2], {}, abc[0]}, {abc[1], abc[0], vol(1, 5, "other")}, {vol(3, 3, ""), vol(2, 3, "middle"), vol(1, 3, "")}, {vol(2, 2, ""), vol(1, 2, strings.Repeat("z", 2000))}}
	most := vols(strings.Split(strings.Repeat("y", 40), "")...)
	slices.Reverse(most)
	return append(all, most, most[:20])
}

func TestTapeAnswersAreNewMemory(t *testing.T) {
	for _, text := range []string{"", "a", "abcdefg", "\x00\xff\n", strings.Repeat("ab", 20), strings.Repeat("abcde", 400)} {
		text = strings.Clone(text)
		for _, size := range []int{1, 2, 3, 7, 50, 51, 1999, 2000} {
			first, _ := impl.TapeCut(text, size)
			second, _ := impl.TapeCut(text, size)
			wantApart(t, append(volSpans("the pieces", first), volSpans("the others", second)...), []span{textSpan("the text", text)})
			for _, v := range first[len(first):cap(first)] {
				if v != (impl.Vol{}) {
					t.Errorf("the spare room has %s", listedVols(v))
				}
			}
			want := slices.Clone(second)
			for i := range first[:cap(first)] {
				first[:cap(first)][i] = vol(7, 7, "bent")
			}
			third, _ := impl.TapeCut(text, size)
			if !slices.Equal(second, want) || !slices.Equal(third, want) {
				t.Errorf("three answers of %q by %d are not the same", text, size)
			}
		}
	}
	for _, given := range memoryVols() {
		list, all := roomyVols(given)
		spans := volSpans("what was given", all)
		text, _ := impl.TapeJoin(list)
		lack := impl.TapeLack(list)
		wantApart(t, []span{textSpan("TapeJoin", text), spanOf("TapeLack", lack)}, spans)
		if slices.ContainsFunc(lack[len(lack):cap(lack)], func(num int) bool { return num != 0 }) {
			t.Errorf("the spare room of TapeLack is %v", lack[:cap(lack)])
		}
		for _, v := range all {
			wantApart(t, []span{textSpan("VolText", impl.VolText(v))}, spans)
			written := strings.Clone(modelVolText(v))
			read, _ := impl.VolRead(written)
			wantApart(t, []span{textSpan("VolRead", read.Text)}, []span{textSpan("the text", written)})
		}
	}
}

func TestTapeWritesIntoNoArgument(t *testing.T) {
	for _, given := range memoryVols() {
		list, all := roomyVols(given)
		was := slices.Clone(all)
		text, ok := impl.TapeJoin(list)
		lack := impl.TapeLack(list)
		for _, v := range list {
			impl.VolOk(v)
			impl.VolText(v)
		}
		if !slices.Equal(all, was) {
			t.Fatalf("something was written into what was given:\n%s\nwas\n%s", listedVols(all...), listedVols(was...))
		}
		wantLacking := slices.Clone(lack)
		for i := range lack[:cap(lack)] {
			lack[:cap(lack)][i] = 77
		}
		again, okAgain := impl.TapeJoin(list)
		if again != text || okAgain != ok || !slices.Equal(impl.TapeLack(list), wantLacking) || !slices.Equal(all, was) {
			t.Errorf("two answers are not the same of\n%s", listedVols(was...))
		}
	}
}

// The empty list and the nil list are one.
func TestTapeEmptyListsAreNilLists(t *testing.T) {
	for _, list := range [][]impl.Vol{nil, {}, vols("a")[:0], make([]impl.Vol, 0, 5)} {
		wantNotTogether(t, "an empty list", list)
	}
}

// No call leaves anything for the next one.
func TestTapeKeepsNothing(t *testing.T) {
	told := func(list []impl.Vol) string {
		text, ok := impl.TapeJoin(list)
		said := fmt.Sprint(text, ok, impl.TapeLack(list), impl.TapeSum(text))
		for size := range 5 {
			cut, ok := impl.TapeCut(text, size*50)
			said += fmt.Sprint(cut, ok)
		}
		for _, v := range list {
			written := impl.VolText(v)
			read, ok := impl.VolRead(written)
			said += fmt.Sprint(impl.VolOk(v), written, read, ok)
		}
		return said
	}
	for _, list := range memoryVols() {
		first := told(list)
		for _, other := range memoryVols() {
			told(other)
		}
		if second := told(list); first != second {
			t.Errorf("two answers are\n%s\n%s", first, second)
		}
	}
}
