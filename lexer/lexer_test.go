package lexer_test

import (
	"slices"
	"strings"
	"testing"

	"glossator/api"
	"glossator/lexer"
)

func space(text string) api.Token      { return api.Token{Kind: api.TokenSpace, Text: text} }
func comment(text string) api.Token    { return api.Token{Kind: api.TokenComment, Text: text} }
func ident(text string) api.Token      { return api.Token{Kind: api.TokenIdent, Text: text} }
func keyword(text string) api.Token    { return api.Token{Kind: api.TokenKeyword, Text: text} }
func integer(text string) api.Token    { return api.Token{Kind: api.TokenInt, Text: text} }
func quoted(text string) api.Token     { return api.Token{Kind: api.TokenString, Text: text} }
func punct(text string) api.Token      { return api.Token{Kind: api.TokenPunct, Text: text} }
func unexpected(text string) api.Token { return api.Token{Kind: api.TokenUnexpected, Text: text} }

func list(tokens ...api.Token) []api.Token { return tokens }

// repeated returns one token of one byte for each byte of text.
func repeated(text string, token func(string) api.Token) []api.Token {
	var tokens []api.Token
	for i := range len(text) {
		tokens = append(tokens, token(text[i:i+1]))
	}
	return tokens
}

func checkTokens(t *testing.T, src string, want []api.Token) {
	t.Helper()
	got, err := lexer.Tokenize(src)
	if err != api.OK || !slices.Equal(got, want) {
		t.Errorf("Tokenize(%q) = %v, error %d, want %v", src, got, err, want)
	}
}

// sourceCase is a source and its tokens.
type sourceCase struct {
	src  string
	want []api.Token
}

func checkSources(t *testing.T, cases []sourceCase) {
	t.Helper()
	for _, c := range cases {
		checkTokens(t, c.src, c.want)
	}
}

func TestTokenize(t *testing.T) {
	checkSources(t, []sourceCase{
		{"", nil},
		{"a//b", list(ident("a"), comment("//b"))},
		{"pub fn f(x: int) -> int {\n\tx // value\n}\n", list(
			keyword("pub"), space(" "), keyword("fn"), space(" "), ident("f"), punct("("), ident("x"),
			punct(":"), space(" "), ident("int"), punct(")"), space(" "), punct("->"), space(" "),
			ident("int"), space(" "), punct("{"), space("\n\t"), ident("x"), space(" "),
			comment("// value"), space("\n"), punct("}"), space("\n"))},
		{`let s="a"+m!(-1);`, list(
			keyword("let"), space(" "), ident("s"), punct("="), quoted(`"a"`), punct("+"), ident("m"),
			punct("!"), punct("("), punct("-"), integer("1"), punct(")"), punct(";"))},
		{"use a::b as c;", list(
			keyword("use"), space(" "), ident("a"), punct("::"), ident("b"), space(" "),
			keyword("as"), space(" "), ident("c"), punct(";"))},
	})
}

func TestSpace(t *testing.T) {
	checkSources(t, []sourceCase{
		{" ", list(space(" "))},
		{"\t", list(space("\t"))},
		{"\n", list(space("\n"))},
		{"\r", list(space("\r"))},
		{" \t\r\n\n\r\t ", list(space(" \t\r\n\n\r\t "))},
		{" a\n\tb\r", list(space(" "), ident("a"), space("\n\t"), ident("b"), space("\r"))},
		{" \v \f ", list(space(" "), unexpected("\v"), space(" "), unexpected("\f"), space(" "))},
		{" \u00a0", list(space(" "), unexpected("\xc2"), unexpected("\xa0"))},
		{" \u2028", list(space(" "), unexpected("\xe2"), unexpected("\x80"), unexpected("\xa8"))},
	})
}

func TestComments(t *testing.T) {
	checkSources(t, []sourceCase{
		{"//", list(comment("//"))},
		{"//\n", list(comment("//"), space("\n"))},
		{"// a b\nc", list(comment("// a b"), space("\n"), ident("c"))},
		{"//a\r\n//b", list(comment("//a\r"), space("\n"), comment("//b"))},
		{"///", list(comment("///"))},
		{"// // \"a\" é\xff\x00", list(comment("// // \"a\" é\xff\x00"))},
		{"/a", list(punct("/"), ident("a"))},
		{"/ /", list(punct("/"), space(" "), punct("/"))},
		{"/\n/", list(punct("/"), space("\n"), punct("/"))},
		{"/", list(punct("/"))},
		{"/*a*/", list(punct("/"), punct("*"), ident("a"), punct("*"), punct("/"))},
		{"*//a", list(punct("*"), comment("//a"))},
		{`//\` + "\na", list(comment(`//\`), space("\n"), ident("a"))},
	})
}

func TestWords(t *testing.T) {
	checkSources(t, []sourceCase{
		{"a", list(ident("a"))},
		{"_", list(ident("_"))},
		{"__", list(ident("__"))},
		{"azAZ_09", list(ident("azAZ_09"))},
		{"Z_9 z", list(ident("Z_9"), space(" "), ident("z"))},
		{"_1", list(ident("_1"))},
		{"fn1 _fn fn_ fnfn", list(
			ident("fn1"), space(" "), ident("_fn"), space(" "), ident("fn_"), space(" "), ident("fnfn"))},
		{"Fn FN matc matches", list(
			ident("Fn"), space(" "), ident("FN"), space(" "), ident("matc"), space(" "), ident("matches"))},
		{"self Self int bool string", list(
			ident("self"), space(" "), ident("Self"), space(" "), ident("int"), space(" "),
			ident("bool"), space(" "), ident("string"))},
		{"1fn", list(integer("1"), keyword("fn"))},
		{"fn(fn)", list(keyword("fn"), punct("("), keyword("fn"), punct(")"))},
		{"a-b", list(ident("a"), punct("-"), ident("b"))},
		{"aéb", list(ident("a"), unexpected("\xc3"), unexpected("\xa9"), ident("b"))},
		{"\uff21\u0661", repeated("\xef\xbc\xa1\xd9\xa1", unexpected)},
		// The bytes next to the letters.
		{"@a[`z{", list(unexpected("@"), ident("a"), punct("["), unexpected("`"), ident("z"), punct("{"))},
		{strings.Repeat("a", api.MaxName+1), list(ident(strings.Repeat("a", api.MaxName+1)))},
	})
}

func TestIntegers(t *testing.T) {
	checkSources(t, []sourceCase{
		{"0", list(integer("0"))},
		{"0123456789", list(integer("0123456789"))},
		{"00", list(integer("00"))},
		{"99999999999999999999", list(integer("99999999999999999999"))},
		{"12ab", list(integer("12"), ident("ab"))},
		{"0x1F", list(integer("0"), ident("x1F"))},
		{"1_000", list(integer("1"), ident("_000"))},
		{"1.5", list(integer("1"), punct("."), integer("5"))},
		{"-1", list(punct("-"), integer("1"))},
		{"1 2", list(integer("1"), space(" "), integer("2"))},
		// The bytes next to the digits.
		{"/0:9", list(punct("/"), integer("0"), punct(":"), integer("9"))},
	})
}

func TestStrings(t *testing.T) {
	checkSources(t, []sourceCase{
		{`""`, list(quoted(`""`))},
		{`"a"`, list(quoted(`"a"`))},
		{`"a""b"`, list(quoted(`"a"`), quoted(`"b"`))},
		{`"a"b"c"`, list(quoted(`"a"`), ident("b"), quoted(`"c"`))},
		{`"a b // c"`, list(quoted(`"a b // c"`))},
		{`"\""`, list(quoted(`"\""`))},
		{`"\\"`, list(quoted(`"\\"`))},
		{`"\\""a"`, list(quoted(`"\\"`), quoted(`"a"`))},
		{`"\\\""`, list(quoted(`"\\\""`))},
		{`"\\\\"a`, list(quoted(`"\\\\"`), ident("a"))},
		{`"\x\n\"` + "\t\"", list(quoted(`"\x\n\"` + "\t\""))},
		{"\"\r\x00é\xff\"", list(quoted("\"\r\x00é\xff\""))},
		{"\"\\\r\"", list(quoted("\"\\\r\""))},
		{"\"\\\xc3\"", list(quoted("\"\\\xc3\""))},
		{"\"a\"\n\"b\"", list(quoted(`"a"`), space("\n"), quoted(`"b"`))},
		{`'a'`, list(unexpected("'"), ident("a"), unexpected("'"))},
		{`\"a"`, list(unexpected(`\`), quoted(`"a"`))},
	})
}

func TestUnterminatedStrings(t *testing.T) {
	checkSources(t, []sourceCase{
		{`"`, list(unexpected(`"`))},
		{`"a b // c`, list(unexpected(`"a b // c`))},
		{`"\"`, list(unexpected(`"\"`))},
		{`"\`, list(unexpected(`"\`))},
		{`"a\\\"`, list(unexpected(`"a\\\"`))},
		{`"""`, list(quoted(`""`), unexpected(`"`))},
		{"\"a\nb", list(unexpected(`"a`), space("\n"), ident("b"))},
		{"\"\n\"", list(unexpected(`"`), space("\n"), unexpected(`"`))},
		{"\"a\r\n", list(unexpected("\"a\r"), space("\n"))},
		{"\"a\\\nb\"", list(unexpected(`"a\`), space("\n"), ident("b"), unexpected(`"`))},
		{"\"\\\n\"a\"", list(unexpected(`"\`), space("\n"), quoted(`"a"`))},
		{"\"\\\"\n\"", list(unexpected(`"\"`), space("\n"), unexpected(`"`))},
		{"\"\\\\\n\"", list(unexpected(`"\\`), space("\n"), unexpected(`"`))},
	})
}

func TestPunctuation(t *testing.T) {
	const single = "(){}[]<>,;:.=+-*/!&|"
	for i := range len(single) {
		checkTokens(t, single[i:i+1], list(punct(single[i:i+1])))
	}
	checkSources(t, []sourceCase{
		{"::=>->==&&||", list(punct("::"), punct("=>"), punct("->"), punct("=="), punct("&&"), punct("||"))},
		{":::", list(punct("::"), punct(":"))},
		{": :", list(punct(":"), space(" "), punct(":"))},
		{"===", list(punct("=="), punct("="))},
		{"==>", list(punct("=="), punct(">"))},
		{"=>=", list(punct("=>"), punct("="))},
		{"-->", list(punct("-"), punct("->"))},
		{"->>", list(punct("->"), punct(">"))},
		{"&&&", list(punct("&&"), punct("&"))},
		{"|||", list(punct("||"), punct("|"))},
		{"!=", list(punct("!"), punct("="))},
		{"<=>", list(punct("<"), punct("=>"))},
		{">=", list(punct(">"), punct("="))},
		{"<-", list(punct("<"), punct("-"))},
		{"++--", repeated("++--", punct)},
		{"..+=", repeated("..+=", punct)},
		{">>", repeated(">>", punct)},
		{"&mut", list(punct("&"), keyword("mut"))},
	})
}

func TestUnexpectedBytes(t *testing.T) {
	const known = " \t\r\n\"_(){}[]<>,;:.=+-*/!&|"
	for value := range 256 {
		c := byte(value)
		letterOrDigit := 'a' <= c && c <= 'z' || 'A' <= c && c <= 'Z' || '0' <= c && c <= '9'
		if letterOrDigit || strings.IndexByte(known, c) >= 0 {
			continue
		}
		text := string([]byte{c})
		checkTokens(t, text, list(unexpected(text)))
		checkTokens(t, "a"+text+text+"1", list(ident("a"), unexpected(text), unexpected(text), integer("1")))
	}
	checkTokens(t, "#é", list(unexpected("#"), unexpected("\xc3"), unexpected("\xa9")))
	checkTokens(t, "\U0001F600", repeated("\xf0\x9f\x98\x80", unexpected))
}

func TestLongestSource(t *testing.T) {
	for _, c := range []struct {
		unit  string
		token func(string) api.Token
	}{
		{" ", space},
		{"/", comment},
		{"a", ident},
		{"1", integer},
		{"\"", nil},
		{"+", nil},
		{"#", nil},
	} {
		longest := strings.Repeat(c.unit, api.MaxSource)
		got, err := lexer.Tokenize(longest)
		if err != api.OK || joined(got) != longest {
			t.Errorf("Tokenize of %d times %q: error %d", api.MaxSource, c.unit, err)
		}
		if c.token != nil {
			checkTokens(t, longest, list(c.token(longest)))
		}
		tooLong := longest + c.unit
		if got, err := lexer.Tokenize(tooLong); err != api.ErrTooLarge || len(got) > 0 {
			t.Errorf("Tokenize of %d times %q: %d tokens, error %d", len(tooLong), c.unit, len(got), err)
		}
	}
	checkTokens(t, strings.Repeat("#", api.MaxSource), repeated(strings.Repeat("#", api.MaxSource), unexpected))
}

func TestTokensAreNewMemory(t *testing.T) {
	got, _ := lexer.Tokenize("a b")
	clear(got)
	checkTokens(t, "a b", list(ident("a"), space(" "), ident("b")))
}

func keywords() []string {
	return strings.Fields(`use pub as fn struct enum trait impl for const macro let mut while
		return match if else new true false type`)
}

func TestKeywords(t *testing.T) {
	if got := lexer.Keywords(); !slices.Equal(got, keywords()) {
		t.Errorf("Keywords() = %q, want %q", got, keywords())
	}
	for _, word := range keywords() {
		checkSources(t, []sourceCase{
			{word, list(keyword(word))},
			{word + "." + word, list(keyword(word), punct("."), keyword(word))},
			{word + "_", list(ident(word + "_"))},
			{"_" + word, list(ident("_" + word))},
			{strings.ToUpper(word), list(ident(strings.ToUpper(word)))},
			{word[1:], list(ident(word[1:]))},
			{`"` + word + `"`, list(quoted(`"` + word + `"`))},
		})
	}
}

func TestKeywordsAreNewMemory(t *testing.T) {
	clear(lexer.Keywords())
	if got := lexer.Keywords(); !slices.Equal(got, keywords()) {
		t.Errorf("Keywords after its result was modified: %q", got)
	}
	checkTokens(t, "use", list(keyword("use")))
}

func TestIsIdentifier(t *testing.T) {
	longest := strings.Repeat("a", api.MaxName)
	for _, s := range []string{"a", "Z", "_", "__", "a1", "_1", "a_1", "use1", "Use", "int", "Self", longest} {
		if !lexer.IsIdentifier(s) {
			t.Errorf("IsIdentifier(%q) = false", s)
		}
	}
	others := append(keywords(),
		"", " ", "1", "1a", "a b", " a", "a ", "a\n", "a-b", "a.b", "a::b", "a//", "//", `"a"`, `"`, "+", "#",
		"é", "aé", "a\xff", "\x00", "a\x00", longest+"a", longest+" ", strings.Repeat("a", api.MaxSource+1))
	for _, s := range others {
		if lexer.IsIdentifier(s) {
			t.Errorf("IsIdentifier(%q) = true", s)
		}
	}
}
