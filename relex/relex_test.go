package relex_test

import (
	"math"
	"slices"
	"strings"
	"testing"

	"glossator/api"
	"glossator/lexer"
	"glossator/relex"
)

func edit(start, end int, text string) api.TextEdit {
	return api.TextEdit{Start: start, End: end, NewText: text}
}

// tokensOf returns the tokens of a source that is not too long.
func tokensOf(t *testing.T, src string) []api.Token {
	t.Helper()
	tokens, err := lexer.Tokenize(src)
	if err != api.OK {
		t.Fatalf("Tokenize of %d bytes: error %d", len(src), err)
	}
	return tokens
}

func texts(tokens []api.Token) []string {
	var list []string
	for _, token := range tokens {
		list = append(list, token.Text)
	}
	return list
}

// checkUpdate checks that Update returns the tokens of the new source, and the
// number of reused ones.
func checkUpdate(t *testing.T, src string, e api.TextEdit, reused int) []api.Token {
	t.Helper()
	want := tokensOf(t, src[:e.Start]+e.NewText+src[e.End:])
	got, n, err := relex.Update(src, tokensOf(t, src), e)
	if err != api.OK || n != reused || !slices.Equal(got, want) {
		t.Fatalf("Update(%.60q, %v) = %.60q, %d, error %d, want %.60q, %d",
			src, e, texts(got), n, err, texts(want), reused)
	}
	return got
}

// updateCase is an edit of a source, the texts of the tokens of the new source,
// and the number of reused tokens.
type updateCase struct {
	src    string
	edit   api.TextEdit
	want   []string
	reused int
}

func checkUpdates(t *testing.T, cases []updateCase) {
	t.Helper()
	for _, c := range cases {
		if got := checkUpdate(t, c.src, c.edit, c.reused); !slices.Equal(texts(got), c.want) {
			t.Errorf("Update(%q, %v) = %q, want %q", c.src, c.edit, texts(got), c.want)
		}
	}
}

func list(texts ...string) []string { return texts }

func TestUpdate(t *testing.T) {
	checkUpdates(t, []updateCase{
		{"ab cd", edit(1, 1, "x"), list("axb", " ", "cd"), 2},
		{"ab cd", edit(0, 0, "x"), list("xab", " ", "cd"), 2},
		{"ab cd", edit(0, 0, "x "), list("x", " ", "ab", " ", "cd"), 3},
		{"ab cd", edit(0, 1, ""), list("b", " ", "cd"), 2},
		{"ab cd", edit(4, 5, "xy"), list("ab", " ", "cxy"), 2},
		{"ab cd", edit(5, 5, " e"), list("ab", " ", "cd", " ", "e"), 2},
		{"ab cd ef", edit(4, 4, " "), list("ab", " ", "c", " ", "d", " ", "ef"), 4},
		{"ab cd ef", edit(1, 7, "-"), list("a", "-", "f"), 0},
		{"let x = 1;", edit(8, 9, "f(2)"), list("let", " ", "x", " ", "=", " ", "f", "(", "2", ")", ";"), 6},
	})
}

// A token that ends where the edit starts is not reused, because the edit can
// change what it is.
func TestTokensBeforeTheEdit(t *testing.T) {
	checkUpdates(t, []updateCase{
		{"ab cd", edit(2, 2, "x"), list("abx", " ", "cd"), 2},
		{"ab cd", edit(3, 3, "x"), list("ab", " ", "xcd"), 1},
		{"ab cd", edit(5, 5, "x"), list("ab", " ", "cdx"), 2},
		{"ab cd", edit(5, 5, "+"), list("ab", " ", "cd", "+"), 2},
		{"ab+cd", edit(3, 5, "1"), list("ab", "+", "1"), 1},
		{"ab+cd", edit(4, 5, "1"), list("ab", "+", "c1"), 2},
		{"fn f", edit(2, 2, "x"), list("fnx", " ", "f"), 2},
		{"a=b", edit(2, 2, "="), list("a", "==", "b"), 2},
		{"a b/c", edit(4, 4, "/"), list("a", " ", "b", "//c"), 3},
		{"a //b", edit(5, 5, "c"), list("a", " ", "//bc"), 2},
		{"a \"b", edit(4, 4, "\""), list("a", " ", "\"b\""), 2},
		{"a\nb", edit(2, 2, " "), list("a", "\n ", "b"), 2},
		{"a;\n", edit(3, 3, "\n"), list("a", ";", "\n\n"), 2},
	})
}

// The first boundary that both sources share decides, even if it is far behind
// the edit.
func TestTokensBehindTheEdit(t *testing.T) {
	checkUpdates(t, []updateCase{
		{"ab cd", edit(2, 3, "+"), list("ab", "+", "cd"), 1},
		{"x yz w", edit(1, 3, ""), list("xz", " ", "w"), 2},
		{"a==b", edit(1, 2, ""), list("a", "=", "b"), 1},
		{"====", edit(0, 0, "=="), list("==", "==", "=="), 2},
		{"====", edit(0, 0, "="), list("==", "==", "="), 0},
		{"====+a", edit(0, 0, "="), list("==", "==", "=", "+", "a"), 2},
		{"a b\nc d", edit(2, 2, "//"), list("a", " ", "//b", "\n", "c", " ", "d"), 5},
		{"a //b\nc", edit(3, 4, ""), list("a", " ", "/", "b", "\n", "c"), 4},
		{"a \"b\nc", edit(4, 4, "\""), list("a", " ", "\"b\"", "\n", "c"), 4},
		{"a \"b\"+\nc", edit(2, 3, ""), list("a", " ", "b", "\"+", "\n", "c"), 3},
		{"\"a\" \"b\";\n1", edit(2, 2, "\\"), list("\"a\\\" \"", "b", "\";", "\n", "1"), 2},
		{"é é", edit(1, 1, "#"), list("\xc3", "#", "\xa9", " ", "\xc3", "\xa9"), 4},
	})
}

// If nothing but the ends of both sources is a common boundary, no token
// behind the edit is reused.
func TestNoCommonBoundaryBehindTheEdit(t *testing.T) {
	checkUpdates(t, []updateCase{
		{"ab cd", edit(2, 3, ""), list("abcd"), 0},
		{"a b c", edit(2, 3, "//"), list("a", " ", "// c"), 1},
		{"a //b c", edit(2, 4, ""), list("a", " ", "b", " ", "c"), 1},
		{"a // b c", edit(5, 5, "\n"), list("a", " ", "// ", "\n", "b", " ", "c"), 2},
		{"x = \"a\" + 1", edit(4, 5, ""), list("x", " ", "=", " ", "a", "\" + 1"), 3},
		{"a \"b\" c \"d\"", edit(2, 2, "\""), list("a", " ", "\"\"", "b", "\" c \"", "d", "\""), 1},
		{"1a", edit(0, 0, "b"), list("b1a"), 0},
		{"ab", edit(0, 2, "cd"), list("cd"), 0},
		{"a b", edit(0, 3, "a b"), list("a", " ", "b"), 0},
		{"a b", edit(0, 3, ""), nil, 0},
		{"a", edit(0, 1, ""), nil, 0},
		{"", edit(0, 0, "a b"), list("a", " ", "b"), 0},
	})
}

// An edit that changes nothing is an edit too: tokens that end where it starts
// or have bytes in its range are not reused.
func TestEditsWithoutEffect(t *testing.T) {
	checkUpdates(t, []updateCase{
		{"", edit(0, 0, ""), nil, 0},
		{"ab cd", edit(0, 0, ""), list("ab", " ", "cd"), 3},
		{"ab cd", edit(1, 1, ""), list("ab", " ", "cd"), 2},
		{"ab cd", edit(2, 2, ""), list("ab", " ", "cd"), 2},
		{"ab cd", edit(3, 3, ""), list("ab", " ", "cd"), 2},
		{"ab cd", edit(4, 4, ""), list("ab", " ", "cd"), 2},
		{"ab cd", edit(5, 5, ""), list("ab", " ", "cd"), 2},
		{"ab cd", edit(2, 3, " "), list("ab", " ", "cd"), 1},
		{"ab cd", edit(1, 4, "b c"), list("ab", " ", "cd"), 0},
	})
}

func TestLongestSources(t *testing.T) {
	bytes := strings.Repeat("#", api.MaxSource)
	checkUpdate(t, bytes, edit(1000, 1001, "+"), 999+999)
	checkUpdate(t, bytes, edit(0, 1, "+"), api.MaxSource-1)
	checkUpdate(t, bytes, edit(0, api.MaxSource, bytes), 0)
	checkUpdate(t, bytes[1:], edit(0, 0, "#"), api.MaxSource-1)
	checkUpdate(t, bytes[1:], edit(api.MaxSource-1, api.MaxSource-1, "#"), api.MaxSource-2)
	checkUpdate(t, "", edit(0, 0, bytes), 0)
	word := strings.Repeat("a", api.MaxSource)
	checkUpdate(t, word, edit(1000, 1001, " "), 0)
	checkUpdate(t, word, edit(1, api.MaxSource, ""), 0)
}

func checkError(t *testing.T, what, src string, tokens []api.Token, e api.TextEdit, want api.Errno) {
	t.Helper()
	if got, reused, err := relex.Update(src, tokens, e); err != want || len(got) > 0 || reused != 0 {
		t.Errorf("%s: Update = %d tokens, %d, error %d, want error %d", what, len(got), reused, err, want)
	}
}

func TestMalformedEdits(t *testing.T) {
	tokens := tokensOf(t, "ab cd")
	for _, e := range []api.TextEdit{
		edit(-1, 0, ""), edit(-1, -1, ""), edit(-3, -2, "x"), edit(2, 1, ""), edit(0, -1, ""),
		edit(0, 6, ""), edit(5, 6, ""), edit(6, 6, "x"), edit(6, 5, ""),
		edit(math.MinInt, 0, ""), edit(0, math.MinInt, ""), edit(math.MinInt, math.MaxInt, ""),
		edit(0, math.MaxInt, ""), edit(math.MaxInt, math.MaxInt, ""), edit(math.MaxInt, math.MinInt, ""),
		edit(2, 1, strings.Repeat("a", api.MaxSource+1)),
	} {
		checkError(t, "malformed edit", "ab cd", tokens, e, api.ErrMalformed)
		checkError(t, "malformed edit and no tokens", "ab cd", nil, e, api.ErrMalformed)
	}
	checkError(t, "edit behind the empty source", "", nil, edit(1, 1, ""), api.ErrMalformed)
}

func TestMalformedTokens(t *testing.T) {
	const src = "ab c"
	ab, space, c := api.Token{Kind: api.TokenIdent, Text: "ab"},
		api.Token{Kind: api.TokenSpace, Text: " "}, api.Token{Kind: api.TokenIdent, Text: "c"}
	for what, tokens := range map[string][]api.Token{
		"nil":               nil,
		"empty":             {},
		"first is missing":  {space, c},
		"last is missing":   {ab, space},
		"order":             {c, space, ab},
		"twice":             {ab, space, c, ab, space, c},
		"end of file":       {ab, space, c, {Kind: api.TokenEOF}},
		"empty token":       {ab, space, {}, c},
		"empty first token": {{Kind: api.TokenIdent}, ab, space, c},
		"kind":              {ab, space, {Kind: api.TokenKeyword, Text: "c"}},
		"invalid kind":      {{Kind: math.MinInt, Text: "ab"}, space, c},
		"text":              {ab, space, {Kind: api.TokenIdent, Text: "d"}},
		"length of text":    {ab, space, {Kind: api.TokenIdent, Text: "cd"}},
		"split token":       {{Kind: api.TokenIdent, Text: "a"}, {Kind: api.TokenIdent, Text: "b"}, space, c},
		"joined tokens":     {ab, {Kind: api.TokenSpace, Text: " c"}},
		"new source":        {ab, space, {Kind: api.TokenIdent, Text: "cx"}},
	} {
		for start := range len(src) + 1 {
			for end := start; end <= len(src); end++ {
				checkError(t, what, src, tokens, edit(start, end, ""), api.ErrMalformed)
			}
		}
		checkError(t, what, src, tokens, edit(4, 4, "x"), api.ErrMalformed)
	}
	checkError(t, "empty source", "", []api.Token{{}}, edit(0, 0, "a"), api.ErrMalformed)
	checkError(t, "empty source", "", []api.Token{{Kind: api.TokenEOF}}, edit(0, 0, ""), api.ErrMalformed)
}

func TestTooLongSources(t *testing.T) {
	longest := strings.Repeat("a", api.MaxSource)
	tooLong := longest + "a"
	token := func(text string) []api.Token { return []api.Token{{Kind: api.TokenIdent, Text: text}} }
	for _, e := range []api.TextEdit{
		edit(0, 0, ""), edit(0, 2, ""), edit(0, len(tooLong), ""), edit(-1, 0, ""), edit(2, 1, ""),
		edit(0, math.MaxInt, "x"),
	} {
		checkError(t, "too long source", tooLong, token(tooLong), e, api.ErrTooLarge)
		checkError(t, "too long source without tokens", tooLong, nil, e, api.ErrTooLarge)
	}
	for _, c := range []struct {
		src  string
		edit api.TextEdit
	}{
		{longest, edit(0, 0, "a")},
		{longest, edit(api.MaxSource, api.MaxSource, " ")},
		{longest, edit(7, 8, "bc")},
		{"a", edit(1, 1, longest)},
		{"a", edit(0, 0, longest)},
		{"a", edit(0, 1, tooLong)},
	} {
		checkError(t, "too long result", c.src, token(c.src), c.edit, api.ErrTooLarge)
		checkError(t, "too long result without tokens", c.src, nil, c.edit, api.ErrTooLarge)
	}
}

// boundaries returns the start of each token and the end of the last one.
func boundaries(tokens []api.Token) []int {
	offsets := []int{0}
	for i, token := range tokens {
		offsets = append(offsets, offsets[i]+len(token.Text))
	}
	return offsets
}

// reusedTokens counts the reused tokens in the words of the chapter.
func reusedTokens(old, changed []api.Token, e api.TextEdit) int {
	from, to := boundaries(old), boundaries(changed)
	shift := len(e.NewText) - (e.End - e.Start)
	count := 0
	for i := range old {
		if from[i+1] < e.Start {
			count++
		}
	}
	for i, b := range from {
		if b >= e.End && slices.Contains(to, b+shift) {
			return count + len(old) - i
		}
	}
	return count
}

// sources returns all sources of at most the given length that consist of
// bytes of the alphabet.
func sources(alphabet string, length int) []string {
	all := []string{""}
	for first := 0; length > 0; length-- {
		next := len(all)
		for _, src := range all[first:] {
			for i := range len(alphabet) {
				all = append(all, src+alphabet[i:i+1])
			}
		}
		first = next
	}
	return all
}

func TestUpdateOfAllShortSources(t *testing.T) {
	inserted := list("", "a", "\"", "\\", "\n", "/", "=", "=a", "\" ", "//", "a\"\\")
	for _, src := range sources("a \"\\\n/=", 4) {
		old := tokensOf(t, src)
		for start := range len(src) + 1 {
			for end := start; end <= len(src); end++ {
				for _, text := range inserted {
					e := edit(start, end, text)
					changed := tokensOf(t, src[:start]+text+src[end:])
					checkUpdate(t, src, e, reusedTokens(old, changed, e))
				}
			}
		}
	}
}

const program = `use m::f as g; // imports
pub fn main() -> int {
	let s = "a \"b\" // c";
	let mut n = -12;
	while n < 3 && !(s == "") { n = n + 1; } // loop
	match s { "x" => g(&n), _ => m!(n) || true }
}
`

// Tokens that are updated after every edit of a sequence are those of the
// source (P500).
func TestSequencesOfEdits(t *testing.T) {
	for _, step := range []int{1, 3, 7, 61} {
		src, tokens := "", []api.Token(nil)
		apply := func(e api.TextEdit) {
			updated, _, err := relex.Update(src, tokens, e)
			src = src[:e.Start] + e.NewText + src[e.End:]
			if want := tokensOf(t, src); err != api.OK || !slices.Equal(updated, want) {
				t.Fatalf("Update to %q = %q, error %d, want %q", src, texts(updated), err, texts(want))
			}
			tokens = updated
		}
		for i := range len(program) {
			apply(edit(i, i, program[i:i+1]))
		}
		for at := 0; len(src) > 0; at += step {
			start := at % len(src)
			apply(edit(start, start+1, ""))
		}
		for i := range len(program) {
			at := i * step % (len(src) + 1)
			apply(edit(at, at, program[i:i+1]))
		}
	}
}

// Results share no memory with arguments or with later results.
func TestArgumentsAndResultsAreIndependent(t *testing.T) {
	tokens := tokensOf(t, "ab cd ef")
	e := edit(4, 4, " ")
	want := tokensOf(t, "ab c d ef")
	result, _, _ := relex.Update("ab cd ef", tokens, e)
	clear(result)
	if !slices.Equal(tokens, tokensOf(t, "ab cd ef")) {
		t.Errorf("tokens were modified: %q", texts(tokens))
	}
	result, _, _ = relex.Update("ab cd ef", tokens, e)
	clear(tokens)
	if !slices.Equal(result, want) {
		t.Errorf("Update = %q after its arguments were modified, want %q", texts(result), texts(want))
	}
	empty, reused, err := relex.Update("", []api.Token{}, edit(0, 0, ""))
	if len(empty) > 0 || reused != 0 || err != api.OK {
		t.Errorf("Update of no tokens = %q, %d, error %d", texts(empty), reused, err)
	}
}
