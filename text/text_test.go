package text_test

import (
	"slices"
	"testing"

	"nacelle/text"
)

func TestLines(t *testing.T) {
	for _, row := range []struct {
		s    string
		want []string
	}{{"", nil}, {"a", []string{"a"}}, {"a\n", []string{"a\n"}}, {"\n\nb", []string{"\n", "\n", "b"}}} {
		if got := text.Lines(row.s); !slices.Equal(got, row.want) {
			t.Errorf("Lines of %q: got %q, want %q", row.s, got, row.want)
		}
	}
}

func TestWords(t *testing.T) {
	for _, row := range []struct {
		line string
		want []string
	}{{"", []string{""}}, {"a bc", []string{"a", "bc"}}, {" a  b\t", []string{"", "a", "", "b\t"}}} {
		words := text.Split(row.line)
		var got []string
		for !words.Done() {
			got = append(got, words.Take())
		}
		if !slices.Equal(got, row.want) {
			t.Errorf("words of %q: got %q, want %q", row.line, got, row.want)
		}
		if word := words.Take(); word != "" {
			t.Errorf("word behind the last one: got %q", word)
		}
	}
}

func TestIntegers(t *testing.T) {
	for _, row := range []struct {
		word             string
		n                int
		integer, natural bool
	}{
		{"0", 0, true, true}, {"7", 7, true, true}, {"999999999", 999999999, true, true}, {"-1", -1, true, false}, {"-999999999", -999999999, true, false},
		{"", 0, false, false}, {"-", 0, false, false}, {"-0", 0, false, false}, {"+1", 0, false, false}, {"01", 0, false, false}, {"00", 0, false, false}, {"1_0", 0, false, false},
		{"0x1", 0, false, false}, {"1.0", 0, false, false}, {"1000000000", 0, false, false}, {"-1000000000", 0, false, false}, {"99999999999999999999", 0, false, false}, {"\u0663", 0, false, false},
	} {
		if n, ok := text.Integer(row.word); ok != row.integer || n != row.n {
			t.Errorf("Integer of %q: got %v and %v, want %v and %v", row.word, n, ok, row.n, row.integer)
		}
		if n, ok := text.Natural(row.word); ok != row.natural || n != max(row.n, 0) {
			t.Errorf("Natural of %q: got %v and %v, want %v and %v", row.word, n, ok, max(row.n, 0), row.natural)
		}
	}
}
