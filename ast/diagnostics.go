package ast

import (
	"cmp"

	"glossator/api"
)

// CompareDiagnostics returns a negative number, 0 or a positive number if a is
// ordered before, equal to or after b.
func CompareDiagnostics(a, b api.Diagnostic) int {
	return cmp.Or(
		cmp.Compare(a.Module, b.Module),
		cmp.Compare(a.Start, b.Start),
		cmp.Compare(a.End, b.End),
		cmp.Compare(a.Code, b.Code),
		cmp.Compare(a.Name, b.Name),
	)
}

func (b *builder) report(code, start, end int) {
	b.diagnostics = append(b.diagnostics, api.Diagnostic{Code: code, Start: start, End: end})
}

// checkToken reports what is wrong with a token at the offset start.
func (b *builder) checkToken(token api.SyntaxTree, start int) {
	end := start + len(token.Text)
	switch token.Kind {
	case api.TokenUnexpected:
		if token.Text == "" {
			b.report(api.CodeMissing, start, end)
		} else {
			b.report(api.CodeBadByte, start, end)
		}
	case api.TokenInt:
		if _, ok := intValue(token.Text); !ok {
			b.report(api.CodeIntRange, start, end)
		}
	case api.TokenIdent:
		if len(token.Text) > api.MaxName {
			b.report(api.CodeLongName, start, end)
		}
	case api.TokenString:
		_, unknown := unquote(token.Text)
		for _, escape := range unknown {
			b.report(api.CodeBadEscape, start+escape, start+escape+2)
		}
	}
}
