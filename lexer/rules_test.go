package lexer_test

import (
	"regexp"
	"slices"
	"strings"
	"testing"

	"glossator/api"
	"glossator/lexer"
)

// rules has one group for each rule of the chapter, in its order. They match
// code points, so a source has to be converted by byteRunes first.
var rules = regexp.MustCompile(`(?s)^(?:` + strings.Join([]string{
	`([ \t\n\r]+)`,
	`(//[^\n]*)`,
	`([A-Za-z_][A-Za-z0-9_]*)`,
	`([0-9]+)`,
	`("(?:[^"\\\n]|\\[^\n])*")`,
	`("[^\n]*)`,
	`(::|=>|->|==|&&|\|\||[(){}\[\]<>,;:.=+\-*/!&|])`,
	`(.)`,
}, "|") + `)`)

var ruleKinds = []int{
	api.TokenSpace, api.TokenComment, api.TokenIdent, api.TokenInt,
	api.TokenString, api.TokenUnexpected, api.TokenPunct, api.TokenUnexpected,
}

// byteRunes returns a string with the code point of the same number for each
// byte of src.
func byteRunes(src string) string {
	var runes []rune
	for i := range len(src) {
		runes = append(runes, rune(src[i]))
	}
	return string(runes)
}

// expected returns the tokens of src according to the rules.
func expected(src string) []api.Token {
	var tokens []api.Token
	for src != "" {
		groups := rules.FindStringSubmatch(byteRunes(src))
		text := src[:len([]rune(groups[0]))]
		rule := slices.IndexFunc(groups[1:], func(group string) bool { return group != "" })
		token := api.Token{Kind: ruleKinds[rule], Text: text}
		if slices.Contains(keywords(), text) {
			token.Kind = api.TokenKeyword
		}
		tokens = append(tokens, token)
		src = src[len(text):]
	}
	return tokens
}

func joined(tokens []api.Token) string {
	var text strings.Builder
	for _, token := range tokens {
		text.WriteString(token.Text)
	}
	return text.String()
}

// checkAllSources checks every sequence of at most the given number of parts.
func checkAllSources(t *testing.T, parts []string, count int) {
	t.Helper()
	var check func(src string, count int)
	check = func(src string, count int) {
		got, err := lexer.Tokenize(src)
		if want := expected(src); err != api.OK || !slices.Equal(got, want) || joined(got) != src {
			t.Fatalf("Tokenize(%q) = %v, error %d, want %v", src, got, err, want)
		}
		if count == 0 {
			return
		}
		for _, part := range parts {
			check(src+part, count-1)
		}
	}
	check("", count)
}

func TestRules(t *testing.T) {
	checkAllSources(t, []string{
		" ", "\n", "a", "Z", "_", "0", "fn", "\"", "\\", "/", ":", "=", "-", ">", "&", "|", "#", "\xc3",
	}, 3)
}

func TestRulesOfQuotes(t *testing.T) {
	checkAllSources(t, []string{"\"", "\\", "\n", "a"}, 6)
}

func TestRulesOfPunctuation(t *testing.T) {
	checkAllSources(t, []string{":", "=", "-", ">", "&", "|", "/", "\n"}, 4)
}

func TestRulesOfPairsOfBytes(t *testing.T) {
	var bytes []string
	for value := range 256 {
		bytes = append(bytes, string([]byte{byte(value)}))
	}
	checkAllSources(t, bytes, 2)
}
