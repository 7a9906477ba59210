package lex_test

import (
	"slices"
	"strings"
	"testing"
	"unsafe"

	"confluence/api"
	"confluence/lex"
)

// smearWords writes over all the memory that words reach, and behind it.
func smearWords(l []api.Word) {
	for _, l := range [][]api.Word{l[:cap(l)], append(l, api.Word{Text: "smear", At: -7})} {
		for i := range l {
			l[i] = api.Word{Text: "smear", At: -7}
		}
	}
}

// smearLines writes over all the memory that lines reach, and behind it.
func smearLines(l []api.Line) {
	for _, line := range l {
		smearWords(line.Words)
	}
	for _, l := range [][]api.Line{l[:cap(l)], append(l, api.Line{N: -7, Words: word("smear", -7)})} {
		for i := range l {
			l[i] = api.Line{N: -7, Words: word("smear", -7)}
		}
	}
}

// given is texts to be handed in that are good.
func given() []string {
	return []string{"", " ", "a", "a b", "a b\nc", "\n\n a\tb # c\n\nd\ne f g\n", row(64, "ab", " "), row(9, row(64, "ab", "\t"), "\n"), row(2000, "w", "\n")}
}

// What is answered is the caller's: writing over it changes no other answer, be it told before or later.
func TestMemoryAnswers(t *testing.T) {
	for _, s := range given() {
		l, _ := lex.Lines(s)
		want, _ := reckonLines(s)
		other, _ := lex.Lines(s)
		smearLines(other)
		again, fault := lex.Lines(s)
		if !same(l, want) || !same(again, want) || fault != (api.Fault{}) {
			t.Errorf("%.40q: %v, %v", s, l, again)
		}
	}
	for _, s := range given() {
		s, _, _ = strings.Cut(s, "\n")
		l, _ := lex.Cut(s)
		want, _ := reckon(s)
		other, _ := lex.Cut(s)
		smearWords(other)
		again, fault := lex.Cut(s)
		if !slices.Equal(l, want) || !slices.Equal(again, want) || fault != (api.Fault{}) {
			t.Errorf("%.40q: %v, %v", s, l, again)
		}
	}
}

// The words of one line have no room in common with those of another.
func TestMemoryLines(t *testing.T) {
	for _, s := range given() {
		l, _ := lex.Lines(s)
		for i := range l {
			want, _ := reckonLines(s)
			l, _ := lex.Lines(s)
			smearWords(l[i].Words)
			l[i], want[i] = api.Line{}, api.Line{}
			if !same(l, want) {
				t.Errorf("%.40q: line %d reaches another one", s, i)
			}
			if i == 20 {
				break
			}
		}
	}
}

// The texts that are handed in are not changed, and nothing that is answered lies in their memory.
func TestMemoryTexts(t *testing.T) {
	for _, x := range given() {
		if x == "" {
			continue
		}
		b := []byte(x)
		s := unsafe.String(&b[0], len(b))
		l, _ := lex.Lines(s)
		one, _, _ := strings.Cut(s, "\n")
		words, _ := lex.Cut(one)
		text := lex.Text(s)
		two := lex.Text(s, s)
		join := lex.Join([]api.Line{{Words: word(s, 1)}})
		if string(b) != x {
			t.Errorf("%.40q: changed to %.40q", x, b)
		}
		first, _, _ := strings.Cut(x, "\n")
		wantWords, _ := reckon(first)
		want, _ := reckonLines(x)
		for i := range b {
			b[i] = 'z'
		}
		if !same(l, want) || !slices.Equal(words, wantWords) {
			t.Errorf("%.40q: words lie in it", x)
		}
		if text != x || two != x+" "+x || join != x+"\n" {
			t.Errorf("%.40q: texts lie in it", x)
		}
	}
}

// Text neither changes the list that is handed in nor reads behind it.
func TestMemoryText(t *testing.T) {
	whole := []string{"a", "", "b c", "#", "mark", "mark"}
	keep := slices.Clone(whole)
	for n := range 5 {
		if s := lex.Text(whole[:n]...); s != strings.Join(keep[:n], " ") {
			t.Errorf("%q: %q", keep[:n], s)
		}
		if !slices.Equal(whole, keep) {
			t.Errorf("changed: %q", whole)
		}
	}
}

// Join neither changes the lists that are handed in nor reads behind them.
func TestMemoryJoin(t *testing.T) {
	fresh := func() ([]api.Line, [][]api.Word) {
		mark := api.Word{Text: "mark", At: -9}
		words := [][]api.Word{{{Text: "a", At: 1}, {Text: "b", At: 5}, mark, mark}, {mark, mark}, {{Text: "c", At: 2}, mark}}
		return []api.Line{{N: 3, Words: words[0][:2]}, {N: 1, Words: words[1][:0]}, {N: 2, Words: words[2][:1]}, {N: -9, Words: words[1]}}, words
	}
	l, words := fresh()
	keep, kept := fresh()
	for n, want := range []string{"", "a b\n", "a b\n\n", "a b\n\nc\n"} {
		if s := lex.Join(l[:n]); s != want {
			t.Errorf("%d lines: %q", n, s)
		}
		if !same(l, keep) || !slices.EqualFunc(words, kept, slices.Equal[[]api.Word]) {
			t.Errorf("changed: %v %v", l, words)
		}
	}
}

// Where a fault is answered there is no list, and where there is none the fault is the zero one.
func TestMemoryFaults(t *testing.T) {
	for _, s := range []string{"\x7f", "a \x00", "a b c\xff", row(65, "a", " "), row(64, "a", " ") + "\n"} {
		if words, fault := lex.Cut(s); words != nil || fault.Code == api.OK || fault.Line != 0 || fault.At < 1 {
			t.Errorf("%q: %v %v", s, words, fault)
		}
	}
	for _, s := range []string{"\x7f", "a\nb\n\x00", "a b c\n" + row(65, "a", " "), strings.Repeat("\n", 2001), strings.Repeat("a", 100001)} {
		if l, fault := lex.Lines(s); l != nil || fault.Code == api.OK {
			t.Errorf("%.40q: %v %v", s, l, fault)
		}
	}
	for _, s := range given() {
		if _, fault := lex.Lines(s); fault != (api.Fault{}) {
			t.Errorf("%.40q: %v", s, fault)
		}
	}
}
