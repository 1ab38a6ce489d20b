package text_test

import (
	"slices"
	"testing"

	"nacelle/api"
	"nacelle/text"
)

func TestLines(t *testing.T) {
	for _, row := range []struct {
		s    string
		want []string
	}{{"", nil}, {"a", []string{"a"}}, {"a\n", []string{"a\n"}}, {"\n\nb", []string{"\n", "\n", "b"}}} {
		if got := text.Lines(row.s); !slices.Equal(got, row.want) {
			t.Errorf("Lines of %q: got %q, want %q", row.s, got, row.want)
		}
	}
}

func TestParse(t *testing.T) {
	for _, row := range []struct {
		s    string
		i    int
		e    api.Errno
		want []string
	}{
		{"", 0, api.OK, nil}, {"a b\n", 0, api.OK, []string{"a", "b"}}, {"a b\nc d\n", 0, api.OK, []string{"a", "b", "c", "d"}}, {"a b", 0, api.ErrSyntax, nil}, {"a b\nc d", 1, api.ErrSyntax, nil}, {"a b\n\n", 1, api.ErrSyntax, nil},
		{"a b c\n", 0, api.ErrSyntax, nil}, {"a b\nc d \n", 1, api.ErrSyntax, nil}, {"a x\nc d\n", 0, api.ErrSyntax, nil}, {"a b\nc x\nd\n", 1, api.ErrSyntax, nil},
		{"a a\n", 1, api.ErrTwice, nil}, {"a a\nc d\n", 2, api.ErrTwice, nil}, {"a a\nc\n", 1, api.ErrSyntax, nil},
		{"aaaaaa bb\n", 0, api.OK, []string{"aaaaaa", "bb"}}, {"aaaaaaa bb\n", 0, api.ErrLong, nil},
	} {
		read := func(to *[]string, index int, words *text.Words) bool {
			if index != len(*to)/2 {
				t.Errorf("Parse of %q: got the index %v, want %v", row.s, index, len(*to)/2)
			}
			first := words.Take()
			second := words.Take()
			*to = append(*to, first, second)
			return first != "" && second != "" && second != "x"
		}
		check := func(l []string) api.Errno {
			if len(slices.Compact(slices.Clone(l))) < len(l) {
				return api.ErrTwice
			}
			return api.OK
		}
		got, i, e := text.Parse(row.s, 10, read, check)
		if i != row.i || e != row.e || !slices.Equal(got, row.want) {
			t.Errorf("Parse of %q: got %q, %v and %v, want %q, %v and %v", row.s, got, i, e, row.want, row.i, row.e)
		}
	}
}

func TestLine(t *testing.T) {
	if got := text.Line("a"); got != "a\n" {
		t.Errorf("Line: got %q", got)
	}
	if got := text.Line("a b", 0, -7, 12); got != "a b 0 -7 12\n" {
		t.Errorf("Line with integers: got %q", got)
	}
}

func TestWords(t *testing.T) {
	for _, row := range []struct {
		line string
		want []string
	}{{"", []string{""}}, {"a bc", []string{"a", "bc"}}, {" a  b\t", []string{"", "a", "", "b\t"}}} {
		words := text.Split(row.line)
		var got []string
		for !words.Done() {
			got = append(got, words.Take())
		}
		if !slices.Equal(got, row.want) {
			t.Errorf("words of %q: got %q, want %q", row.line, got, row.want)
		}
		if word := words.Take(); word != "" {
			t.Errorf("word behind the last one: got %q", word)
		}
	}
}

func TestNumbers(t *testing.T) {
	for _, row := range []struct {
		line  string
		count int
		want  []int
		ok    bool
		left  string
	}{
		{"1 2 3", 2, []int{1, 2}, true, "3"}, {"1 2", 2, []int{1, 2}, true, ""}, {"1 2", 3, nil, false, ""}, {"x 2 3", 2, nil, false, "2"}, {"1 x 3", 2, nil, false, "3"}, {"1 -2 3", 2, nil, false, "3"}, {"1", 0, nil, true, "1"},
	} {
		words := text.Split(row.line)
		got, ok := words.Numbers(row.count, text.Natural)
		if left := words.Take(); ok != row.ok || !slices.Equal(got, row.want) || left != row.left {
			t.Errorf("%v numbers of %q: got %v, %v and %q left, want %v, %v and %q", row.count, row.line, got, ok, left, row.want, row.ok, row.left)
		}
	}
}

func TestFilled(t *testing.T) {
	for _, row := range []struct {
		line  string
		count int
		want  []string
		ok    bool
		left  string
	}{
		{"a b c", 2, []string{"a", "b"}, true, "c"}, {"a \xff", 2, []string{"a", "\xff"}, true, ""}, {"a b", 3, nil, false, ""}, {"", 1, nil, false, ""}, {" a b", 2, nil, false, "a"}, {"a  b", 2, nil, false, "b"}, {"a", 0, nil, true, "a"},
	} {
		words := text.Split(row.line)
		got, ok := words.Filled(row.count)
		if left := words.Take(); ok != row.ok || !slices.Equal(got, row.want) || left != row.left {
			t.Errorf("%v words of %q: got %q, %v and %q left, want %q, %v and %q", row.count, row.line, got, ok, left, row.want, row.ok, row.left)
		}
	}
}

func TestIntegers(t *testing.T) {
	for _, row := range []struct {
		word             string
		n                int
		integer, natural bool
	}{
		{"0", 0, true, true}, {"7", 7, true, true}, {"999999999", 999999999, true, true}, {"-1", -1, true, false}, {"-999999999", -999999999, true, false},
		{"", 0, false, false}, {"-", 0, false, false}, {"-0", 0, false, false}, {"+1", 0, false, false}, {"01", 0, false, false}, {"00", 0, false, false}, {"1_0", 0, false, false},
		{"0x1", 0, false, false}, {"1.0", 0, false, false}, {"1000000000", 0, false, false}, {"-1000000000", 0, false, false}, {"99999999999999999999", 0, false, false}, {"\u0663", 0, false, false},
	} {
		if n, ok := text.Integer(row.word); ok != row.integer || n != row.n {
			t.Errorf("Integer of %q: got %v and %v, want %v and %v", row.word, n, ok, row.n, row.integer)
		}
		if n, ok := text.Natural(row.word); ok != row.natural || n != max(row.n, 0) {
			t.Errorf("Natural of %q: got %v and %v, want %v and %v", row.word, n, ok, max(row.n, 0), row.natural)
		}
	}
}
