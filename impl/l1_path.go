package impl

import (
	"iter"
	"slices"
	"strings"
)

// Bounds of ways.
const (
	NameMax  = 4
	PathLong = 5
)

// NameOk says whether a text is a name.
func NameOk(s string) bool {
	return 1 <= len(s) && len(s) <= NameMax && lettersAlone(s)
}

// PathOk says whether names are a way.
func PathOk(p []string) bool {
	if len(p) > PathLong {
		return false
	}
	for _, name := range p {
		if !NameOk(name) {
			return false
		}
	}
	return true
}

// PathText writes a way.
func PathText(p []string) string {
	if !PathOk(p) {
		return ""
	}
	return "/" + strings.Join(p, "/")
}

// PathRead reads a way.
func PathRead(text string) ([]string, bool) {
	if !strings.HasPrefix(text, "/") {
		return nil, false
	}
	// The root's text is the only one in which nothing stands behind a slash.
	if text == "/" {
		return nil, true
	}
	var way []string
	for name := range namesBetween(text[1:]) {
		if len(way) == PathLong || !NameOk(name) {
			return nil, false
		}
		// A piece of the text would keep sharing the text's memory.
		way = append(way, strings.Clone(name))
	}
	return way, true
}

// PathIn says whether a way begins with another one.
func PathIn(p []string, head []string) bool {
	return len(head) <= len(p) && slices.Equal(p[:len(head)], head)
}

// lettersAlone says whether a text has no other bytes than a to z.
func lettersAlone(s string) bool {
	for i := range len(s) {
		if s[i] < 'a' || s[i] > 'z' {
			return false
		}
	}
	return true
}

// namesBetween yields what stands ahead of, between and behind the slashes of
// a text, empty pieces too: only so are needless slashes seen by who reads.
func namesBetween(text string) iter.Seq[string] {
	return func(yield func(string) bool) {
		start := 0
	cut:
		for {
			for end := start; end < len(text); end++ {
				if text[end] != '/' {
					continue
				}
				if !yield(text[start:end]) {
					return
				}
				start = end + 1
				continue cut
			}
			yield(text[start:])
			return
		}
	}
}
