package ast_test

import (
	"math/rand"
	"slices"
	"strings"
	"testing"

	"glossator/api"
	"glossator/ast"
)

// checkRoundTrip checks that Print returns a source with the given tree, whose
// tokens have single spaces between them, and that this source is printed as it
// is. It reports whether the tree can be printed.
func checkRoundTrip(t *testing.T, src string, node api.Node) bool {
	t.Helper()
	printed, err := ast.Print(node)
	if err == api.ErrTooLarge {
		return false
	}
	if err != api.OK {
		t.Fatalf("Print of the tree of %q returns the error %d", src, err)
	}
	again, diagnostics := parse(t, printed)
	if len(diagnostics) > 0 || shape(again) != shape(node) {
		t.Fatalf("Print of the tree of %q returns %q", src, printed)
	}
	if strings.Join(tokenTexts(printed), " ") != printed {
		t.Fatalf("Print of the tree of %q returns %q, whose spaces are not single", src, printed)
	}
	if same, err := ast.Print(again); same != printed || err != api.OK {
		t.Fatalf("Print of the tree of %q returns %q, %d", printed, same, err)
	}
	return true
}

// TestPrintAllShortSources checks all sequences of up to three tokens, in
// different places of a source, that have no diagnostics.
func TestPrintAllShortSources(t *testing.T) {
	words := strings.Fields("a _ 1 ( ) { } . , ; : :: => + < > & - ! | if mut fn")
	count := 0
	for _, place := range []string{
		"fn f() { @ }", "fn f() { (@) = 1; }", "fn f() { a + (@)(b) }", "fn f() { let @ = 1; }", "fn f() { while @ {} }",
		"fn f() { if a { @ } else {} }", "fn f() { match @ { } }", "fn f() { match a { @ => 1 } }", "fn f(@) {}", "fn f() @ {}",
		"const c: @ = 1;", "trait T { @ }", "impl @ {}", "enum E { @ }", "struct S<@> {}", "fn f() { |@| a }", "use @;",
	} {
		sequences(words, 3, func(text string) {
			src := strings.Replace(place, "@", text, 1)
			if node, diagnostics := parse(t, src); len(diagnostics) == 0 && checkRoundTrip(t, src, node) {
				count++
			}
		})
	}
	if count < 700 {
		t.Errorf("only %d sources have no diagnostics", count)
	}
}

// sequences calls check for all texts of up to n words.
func sequences(words []string, n int, check func(string)) {
	check("")
	if n == 0 {
		return
	}
	for _, word := range words {
		sequences(words, n-1, func(rest string) {
			check(word + " " + rest)
		})
	}
}

// writer makes random sources without diagnostics. Its methods follow the
// grammar of chapter 8.
type writer struct {
	*rand.Rand
	budget int // how many optional parts the source may still have
}

func (w *writer) more() bool {
	w.budget--
	return w.budget > 0 && w.Intn(3) > 0
}

func (w *writer) pick(texts ...string) string { return texts[w.Intn(len(texts))] }

func (w *writer) maybe(text string) string {
	if w.more() {
		return text
	}
	return ""
}

// list returns elements with commas between them, and perhaps behind them.
func (w *writer) list(element func() string) string {
	text := ""
	for w.more() {
		if text != "" {
			text += ", "
		}
		text += element()
	}
	if text != "" && w.Intn(3) == 0 {
		text += ","
	}
	return text
}

func (w *writer) name() string { return w.pick("a", "b1", "_c", "Self", "x_") }

func (w *writer) path() string {
	text := w.name()
	for w.Intn(4) == 0 {
		text += "::" + w.name()
	}
	return text
}

func (w *writer) types() string {
	switch w.Intn(6) {
	case 0:
		return "& " + w.maybe("mut ") + w.types()
	case 1:
		return "fn(" + w.list(w.types) + ")" + w.result()
	case 2:
		return w.typePath()
	}
	return w.name()
}

func (w *writer) typePath() string {
	text := w.name() + "<" + w.list(w.types) + ">"
	if w.more() {
		text += "::" + w.name()
	}
	return text
}

func (w *writer) result() string {
	if w.more() {
		return "-> " + w.types()
	}
	return ""
}

func (w *writer) typed() string {
	if w.more() {
		return w.name() + ": " + w.types()
	}
	return w.name()
}

func (w *writer) typeParam() string {
	text := w.name()
	for separator := ": "; w.more(); separator = " + " {
		text += separator + w.pick(w.name(), w.typePath())
	}
	return text
}

func (w *writer) signature() string {
	return "fn " + w.name() + w.maybe("<"+w.list(w.typeParam)+">") + "(" + w.list(w.typed) + ") " + w.result()
}

func (w *writer) member() string {
	switch w.Intn(3) {
	case 0:
		return "type " + w.name() + w.pick("", " = "+w.types()) + "; "
	case 1:
		return w.signature() + "; "
	}
	return w.signature() + w.block()
}

func (w *writer) repeated(part func() string) string {
	text := ""
	for w.more() {
		text += part() + " "
	}
	return text
}

func (w *writer) item() string {
	params := w.maybe("<" + w.list(w.typeParam) + ">")
	public := w.maybe("pub ")
	switch w.Intn(8) {
	case 0:
		return public + "use " + w.path() + w.pick(";", " as "+w.name()+";", "::*;")
	case 1:
		return public + "struct " + w.name() + params + " {" + w.list(func() string { return w.name() + ": " + w.types() }) + "}"
	case 2:
		return public + "enum " + w.name() + params + " {" + w.list(func() string { return w.name() + w.maybe("("+w.list(w.types)+")") }) + "}"
	case 3:
		return public + "trait " + w.name() + " {" + w.repeated(w.member) + "}"
	case 4:
		return public + "impl " + params + w.maybe(w.types()+" for ") + w.types() + " {" + w.repeated(w.member) + "}"
	case 5:
		return public + "const " + w.name() + ": " + w.types() + " = " + w.expression() + ";"
	case 6:
		return public + "macro " + w.name() + "(" + w.list(w.typed) + ") = " + w.expression() + ";"
	}
	return public + w.signature() + w.block()
}

func (w *writer) block() string {
	return "{ " + w.repeated(w.statement) + w.maybe(w.expression()) + " }"
}

func (w *writer) statement() string {
	switch w.Intn(6) {
	case 0:
		return "let " + w.pattern() + w.maybe(": "+w.types()) + " = " + w.expression() + ";"
	case 1:
		return "(" + w.expression() + ") = " + w.expression() + ";"
	case 2:
		return "while " + w.expression() + w.block()
	case 3:
		return "return " + w.maybe(w.expression()) + ";"
	case 4:
		return w.path() + " = " + w.expression() + ";"
	}
	return "(" + w.expression() + ");"
}

func (w *writer) pattern() string {
	switch w.Intn(8) {
	case 0:
		return "_"
	case 1:
		return "mut " + w.name()
	case 2:
		return w.path() + "(" + w.list(w.pattern) + ")"
	case 3:
		return w.name() + "::" + w.name()
	case 4:
		return w.pick("1", "007", "true", "false")
	}
	return w.name()
}

func (w *writer) expression() string {
	if w.budget <= 0 {
		return w.pick(w.path(), "1", "true", "false", `"s\n"`)
	}
	w.budget--
	inner := w.expression
	operand := func() string { return w.pick("1", w.path(), "("+inner()+")") }
	switch w.Intn(14) {
	case 0:
		return operand() + "(" + w.list(inner) + ")"
	case 1:
		return operand() + "." + w.name() + "(" + w.list(inner) + ")"
	case 2:
		return operand() + "." + w.name()
	case 3:
		return "new " + w.path() + " {" + w.list(func() string { return w.name() + ": " + inner() }) + "}"
	case 4:
		return "match " + inner() + " {" + w.list(func() string { return w.pattern() + " => " + inner() }) + "}"
	case 5:
		return "if " + inner() + w.block() + w.pick("", "else "+w.block(), "else if "+inner()+w.block())
	case 6:
		return "| " + w.list(w.typed) + "| " + inner()
	case 7, 8:
		return operand() + w.pick("||", "&&", "==", "<", "+", "-", "*", "/") + operand()
	case 9:
		return w.pick("-", "!", "*") + operand()
	case 10:
		return "& " + w.maybe("mut ") + operand()
	case 11:
		return w.path() + "!(" + w.list(inner) + ")"
	case 12:
		return w.block()
	}
	return "(" + inner() + ")"
}

func TestPrintRandomPrograms(t *testing.T) {
	random := rand.New(rand.NewSource(123))
	count := 0
	for range 20000 {
		w := &writer{random, 5 + random.Intn(60)}
		src := w.repeated(w.item) + w.item()
		if len(src) > api.MaxSource {
			continue
		}
		node := parseClean(t, src)
		if node.Start, node.End = 0, 0; checkRoundTrip(t, src, node) {
			count++
		}
	}
	if count < 15000 {
		t.Errorf("only %d sources have been printed", count)
	}
}

// TestPrintChangedTrees checks that Print of a tree of which a node has been
// changed returns an error or a source with that tree.
func TestPrintChangedTrees(t *testing.T) {
	random := rand.New(rand.NewSource(124))
	outcomes := map[api.Errno]int{}
	for range 20000 {
		w := &writer{random, 5 + random.Intn(20)}
		node := parseClean(t, w.item())
		count := 0
		changeNode(&node, func(*api.Node) { count++ })
		index := random.Intn(count)
		changeNode(&node, func(changed *api.Node) {
			if index--; index == -1 {
				changeRandomly(random, changed)
			}
		})
		src, err := ast.Print(node)
		outcomes[err]++
		if err == api.OK {
			if again := parseClean(t, src); shape(again) != shape(node) {
				t.Fatalf("Print of %s returns %q", shape(node), src)
			}
		} else if src != "" {
			t.Fatalf("Print of %s returns %q and an error", shape(node), src)
		}
	}
	if outcomes[api.OK] < 1000 || outcomes[api.ErrMalformed] < 1000 {
		t.Errorf("the numbers of errors are %v", outcomes)
	}
}

// changeRandomly changes one of the fields of a node.
func changeRandomly(random *rand.Rand, node *api.Node) {
	switch random.Intn(6) {
	case 0:
		node.Kind = random.Intn(api.NodeKinds)
	case 1:
		node.Value = random.Intn(5) - 1
	case 2:
		node.Text = []string{"", "a", "_", "fn", "+", "-", "a b"}[random.Intn(7)]
	case 3:
		node.Children = append(node.Children, []api.Node{{}, number(1), path("a")}[random.Intn(3)])
	case 4:
		if len(node.Children) > 0 {
			node.Children = slices.Delete(node.Children, 0, 1)
		}
	case 5:
		slices.Reverse(node.Children)
	}
}
