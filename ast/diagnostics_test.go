package ast_test

import (
	"math"
	"slices"
	"strings"
	"testing"

	"glossator/api"
	"glossator/ast"
	"glossator/lexer"
	"glossator/parser"
)

// found is a diagnostic that Parse reports.
func found(code, start, end int) api.Diagnostic {
	return api.Diagnostic{Code: code, Start: start, End: end}
}

func TestDiagnostics(t *testing.T) {
	long := strings.Repeat("a", api.MaxName)
	for _, test := range []struct {
		src  string
		want []api.Diagnostic
	}{
		{"", nil},
		{"fn f() { a.b + \"c\\n\\\"\\\\\" // \\x # 99999999999\n }", nil},
		// Missing tokens, expressions, types and patterns.
		{"const c: int = ;", []api.Diagnostic{found(api.CodeMissing, 14, 14)}},
		{"const c: int = 1", []api.Diagnostic{found(api.CodeMissing, 16, 16)}},
		{"const c: int = 1 // c", []api.Diagnostic{found(api.CodeMissing, 16, 16)}},
		{"const c:  = 1;", []api.Diagnostic{found(api.CodeMissing, 8, 8)}},
		{"fn f() { let = 1; }", []api.Diagnostic{found(api.CodeMissing, 12, 12)}},
		{"fn f() {  + 1 }", []api.Diagnostic{found(api.CodeMissing, 8, 8)}},
		// There are six missing tokens, but at the same offset.
		{"fn", []api.Diagnostic{found(api.CodeMissing, 2, 2)}},
		{"use a use b", []api.Diagnostic{found(api.CodeMissing, 5, 5), found(api.CodeMissing, 11, 11)}},
		// Unexpected source.
		{"x", []api.Diagnostic{found(api.CodeUnexpected, 0, 1)}},
		{" x // c\n y // c\n use a;", []api.Diagnostic{found(api.CodeUnexpected, 1, 10)}},
		{"fn f() { mut else }", []api.Diagnostic{found(api.CodeUnexpected, 9, 12), found(api.CodeUnexpected, 13, 17)}},
		{"fn f(1) {}", []api.Diagnostic{found(api.CodeUnexpected, 5, 6)}},
		{"fn f() { ( ) }", []api.Diagnostic{found(api.CodeUnexpected, 9, 12)}},
		{"const c: int = (", []api.Diagnostic{found(api.CodeUnexpected, 15, 16), found(api.CodeMissing, 16, 16)}},
		// Bytes that start no token.
		{"#", []api.Diagnostic{found(api.CodeUnexpected, 0, 1), found(api.CodeBadByte, 0, 1)}},
		{"#x\xff", []api.Diagnostic{found(api.CodeBadByte, 0, 1), found(api.CodeUnexpected, 0, 3), found(api.CodeBadByte, 2, 3)}},
		{"fn f() { \"a; }", []api.Diagnostic{found(api.CodeUnexpected, 9, 14), found(api.CodeBadByte, 9, 14), found(api.CodeMissing, 14, 14)}},
		// Integers.
		{"fn f() { 2147483647 }", nil},
		{"fn f() { 2147483648 }", []api.Diagnostic{found(api.CodeIntRange, 9, 19)}},
		{"fn f() { 0002147483647 }", nil},
		{"fn f() { 99999999999999999999 }", []api.Diagnostic{found(api.CodeIntRange, 9, 29)}},
		{"2147483648", []api.Diagnostic{found(api.CodeUnexpected, 0, 10), found(api.CodeIntRange, 0, 10)}},
		// Names.
		{"use " + long + ";", nil},
		{"use " + long + "a;", []api.Diagnostic{found(api.CodeLongName, 4, 35)}},
		{"fn f() { a." + long + "a }", []api.Diagnostic{found(api.CodeLongName, 11, 42)}},
		{long + "a", []api.Diagnostic{found(api.CodeUnexpected, 0, 31), found(api.CodeLongName, 0, 31)}},
		// Escape sequences.
		{`const c: int = "\x";`, []api.Diagnostic{found(api.CodeBadEscape, 16, 18)}},
		{`const c: int = "\\x\t\n\ \\\"\'";`, []api.Diagnostic{found(api.CodeBadEscape, 19, 21),
			found(api.CodeBadEscape, 23, 25), found(api.CodeBadEscape, 29, 31)}},
		{"const c: int = \"\\\xc3\xa9\";", []api.Diagnostic{found(api.CodeBadEscape, 16, 18)}},
		{`"\x"`, []api.Diagnostic{found(api.CodeUnexpected, 0, 4), found(api.CodeBadEscape, 1, 3)}},
		{`"\x`, []api.Diagnostic{found(api.CodeUnexpected, 0, 3), found(api.CodeBadByte, 0, 3)}},
	} {
		if _, got := parse(t, test.src); !slices.Equal(got, test.want) {
			t.Errorf("the diagnostics of %q are %v, want %v", test.src, got, test.want)
		}
	}
}

// modelOfTokens returns the diagnostics for the tokens of a source.
func modelOfTokens(src string) []api.Diagnostic {
	var diagnostics []api.Diagnostic
	tokens, _ := lexer.Tokenize(src)
	start := 0
	for _, token := range tokens {
		end := start + len(token.Text)
		switch token.Kind {
		case api.TokenUnexpected:
			diagnostics = append(diagnostics, found(api.CodeBadByte, start, end))
		case api.TokenInt:
			digits := strings.TrimLeft(token.Text, "0")
			if len(digits) > 10 || len(digits) == 10 && digits > "2147483647" {
				diagnostics = append(diagnostics, found(api.CodeIntRange, start, end))
			}
		case api.TokenIdent:
			if len(token.Text) > api.MaxName {
				diagnostics = append(diagnostics, found(api.CodeLongName, start, end))
			}
		case api.TokenString:
			for _, index := range escape.FindAllStringIndex(token.Text, -1) {
				if !strings.Contains(`n"\`, token.Text[index[0]+1:index[1]]) {
					diagnostics = append(diagnostics, found(api.CodeBadEscape, start+index[0], start+index[1]))
				}
			}
		}
		start = end
	}
	return diagnostics
}

// modelOfMissingTokens returns the diagnostics for the missing tokens of a
// syntax tree, and the offset behind it.
func modelOfMissingTokens(tree api.SyntaxTree, offset int) ([]api.Diagnostic, int) {
	if tree.Kind == api.TokenUnexpected && tree.Text == "" {
		return []api.Diagnostic{found(api.CodeMissing, offset, offset)}, offset
	}
	var diagnostics []api.Diagnostic
	for _, child := range tree.Children {
		var inner []api.Diagnostic
		inner, offset = modelOfMissingTokens(child, offset)
		diagnostics = append(diagnostics, inner...)
	}
	return diagnostics, offset + len(tree.Text)
}

func TestDiagnosticsAgainstModel(t *testing.T) {
	soups(t, func(src string) {
		node, got := parse(t, src)
		tree, _ := parser.Parse(src)
		want, _ := modelOfMissingTokens(tree, 0)
		want = append(want, modelOfTokens(src)...)
		walk(node, func(node api.Node) {
			switch {
			case node.Kind == api.NodeError && node.Start == node.End:
				want = append(want, found(api.CodeMissing, node.Start, node.End))
			case node.Kind == api.NodeError:
				want = append(want, found(api.CodeUnexpected, node.Start, node.End))
			}
		})
		slices.SortFunc(want, ast.CompareDiagnostics)
		if want = slices.Compact(want); !slices.Equal(got, want) {
			t.Fatalf("the diagnostics of %q are %v, want %v", src, got, want)
		}
	})
}

func TestCompareDiagnostics(t *testing.T) {
	// Each diagnostic is ordered before all that follow it.
	sorted := []api.Diagnostic{
		{Module: math.MinInt, Start: 9},
		{Module: -1, Start: 9, End: 9, Code: 9, Name: "z"},
		{Start: math.MinInt, End: 9, Code: 9},
		{Start: -1, End: 9, Code: 9, Name: "z"},
		{End: math.MinInt, Code: 9},
		{End: -1, Code: 9, Name: "z"},
		{Code: math.MinInt, Name: "z"},
		{Code: -1, Name: "z"},
		{},
		{Name: "\x00"},
		{Name: "A"},
		{Name: "AB"},
		{Name: "a"},
		{Name: "\xff"},
		{Code: 1},
		{Code: 2},
		{Code: math.MaxInt},
		{End: 1},
		{End: math.MaxInt, Code: -1},
		{Start: 1, End: -1, Code: -1},
		{Start: math.MaxInt},
		{Module: 1, Start: -1, End: -1, Code: -1},
		{Module: 2},
		{Module: math.MaxInt},
	}
	for i, a := range sorted {
		for j, b := range sorted {
			got := ast.CompareDiagnostics(a, b)
			if (got < 0) != (i < j) || (got > 0) != (i > j) {
				t.Errorf("CompareDiagnostics(%v, %v) = %d", a, b, got)
			}
		}
	}
}

func TestQuoteString(t *testing.T) {
	for _, test := range []struct{ s, want string }{
		{"", `""`},
		{"abc", `"abc"`},
		{"a\n\"\\", `"a\n\"\\"`},
		{`\n`, `"\\n"`},
		{"\r\t\x00\x7f\xff\xc3\xa9'", "\"\r\t\x00\x7f\xff\xc3\xa9'\""},
	} {
		if got := ast.QuoteString(test.s); got != test.want {
			t.Errorf("QuoteString(%q) = %s, want %s", test.s, got, test.want)
		}
	}
}

// TestQuoteStringAndParse checks that the literals of all strings of up to two
// bytes have these strings as their values.
func TestQuoteStringAndParse(t *testing.T) {
	check := func(s string) {
		node := parseClean(t, "const c: int = "+ast.QuoteString(s)+";")
		if got := at(node, 0, 1); got.Kind != api.NodeString || got.Text != s {
			t.Errorf("the value of %s is %q", ast.QuoteString(s), got.Text)
		}
	}
	for i := range 256 {
		check(string([]byte{byte(i)}))
		for _, j := range []byte{'\\', '"', '\n', 'n', byte(i)} {
			check(string([]byte{byte(i), j}))
			check(string([]byte{j, byte(i)}))
		}
	}
}
