package reparse_test

import (
	"slices"
	"strings"
	"testing"

	"glossator/api"
	"glossator/lexer"
	"glossator/parser"
	"glossator/reparse"
)

func edit(start, end int, text string) api.TextEdit {
	return api.TextEdit{Start: start, End: end, NewText: text}
}

// replace returns the edit that replaces the only occurrence of a text.
func replace(t *testing.T, src, text, by string) api.TextEdit {
	t.Helper()
	if strings.Count(src, text) != 1 {
		t.Fatalf("%q occurs %d times in %q", text, strings.Count(src, text), src)
	}
	start := strings.Index(src, text)
	return edit(start, start+len(text), by)
}

func apply(src string, e api.TextEdit) string { return src[:e.Start] + e.NewText + src[e.End:] }

func isToken(tree api.SyntaxTree) bool { return tree.Kind >= api.TokenEOF }

func sameTree(a, b api.SyntaxTree) bool {
	return a.Kind == b.Kind && a.Text == b.Text && slices.EqualFunc(a.Children, b.Children, sameTree)
}

func copyOf(tree api.SyntaxTree) api.SyntaxTree {
	children := tree.Children
	tree.Children = nil
	for _, child := range children {
		tree.Children = append(tree.Children, copyOf(child))
	}
	return tree
}

// treeOf returns the tree of a source that is not too long.
func treeOf(t *testing.T, src string) api.SyntaxTree {
	t.Helper()
	tree, err := parser.Parse(src)
	if err != api.OK {
		t.Fatalf("Parse of %d bytes: error %d", len(src), err)
	}
	return tree
}

// itemsOf returns the children of a root that are not tokens.
func itemsOf(root api.SyntaxTree) []api.SyntaxTree {
	return slices.DeleteFunc(slices.Clone(root.Children), isToken)
}

// followedItems counts the items that have to be reused: those that are
// followed by two significant tokens that end before offset.
func followedItems(t *testing.T, src string, root api.SyntaxTree, offset int) int {
	t.Helper()
	tokens, err := lexer.Tokenize(src)
	if err != api.OK {
		t.Fatalf("Tokenize of %d bytes: error %d", len(src), err)
	}
	count, itemEnd := 0, 0
	for _, item := range itemsOf(root) {
		itemEnd += len(parser.Source(item))
		following, end := 0, 0
		for _, token := range tokens {
			start := end
			end += len(token.Text)
			significant := token.Kind != api.TokenSpace && token.Kind != api.TokenComment
			if significant && start >= itemEnd && end < offset {
				following++
			}
		}
		if following >= 2 {
			count++
		}
	}
	return count
}

// keptItems counts the items that two trees have in common at their starts and
// at their ends: no others can have been reused.
func keptItems(before, after []api.SyntaxTree) int {
	shorter := min(len(before), len(after))
	leading := 0
	for leading < shorter && sameTree(before[leading], after[leading]) {
		leading++
	}
	trailing := 0
	for trailing < shorter-leading && sameTree(before[len(before)-1-trailing], after[len(after)-1-trailing]) {
		trailing++
	}
	return leading + trailing
}

// checkUpdate checks that Update returns the tree of the new source, and a
// number of reused items in the bounds of the chapter.
func checkUpdate(t *testing.T, src string, e api.TextEdit) (api.SyntaxTree, int) {
	t.Helper()
	old, want := treeOf(t, src), treeOf(t, apply(src, e))
	got, reused, err := reparse.Update(src, old, e)
	if err != api.OK || !sameTree(got, want) {
		t.Fatalf("Update(%q, %v) = %v, error %d, want %v", src, e, got, err, want)
	}
	least, most := followedItems(t, src, old, e.Start), len(itemsOf(want))
	if reused < least || reused > most || reused > keptItems(itemsOf(old), itemsOf(want)) {
		t.Fatalf("Update(%q, %v) reuses %d items, want %d to %d that are unchanged", src, e, reused, least, most)
	}
	return got, reused
}

const tenConstants = `const a: int = 1;
const b: int = 1;
const c: int = 1;
const d: int = 1;
const e: int = 1;
const f: int = 1;
const g: int = 1;
const h: int = 1;
const i: int = 1;
const j: int = 2;
`

func TestEditOfTheLastConstant(t *testing.T) {
	for _, e := range []api.TextEdit{
		replace(t, tenConstants, "2", "3"),
		replace(t, tenConstants, "j: int = 2;\n", ""),
		replace(t, tenConstants, "= 2", "= { 2 }; fn k() {}"),
		replace(t, tenConstants, "2;\n", "\"2;\n"),
		edit(len(tenConstants), len(tenConstants), "// end"),
	} {
		if _, reused := checkUpdate(t, tenConstants, e); reused < 8 {
			t.Errorf("%v: %d items are reused, want at least 8", e, reused)
		}
	}
}

func TestEditsOfConstants(t *testing.T) {
	for _, e := range []api.TextEdit{
		replace(t, tenConstants, "const a", "fn a"),
		replace(t, tenConstants, "const d", "pub const d"),
		replace(t, tenConstants, "const d: int = 1;\n", ""),
		replace(t, tenConstants, "e: int = 1;\n", "e: int = "),
		replace(t, tenConstants, "e: int", "e: int }"),
		replace(t, tenConstants, "e: int", "e: in{t"),
		replace(t, tenConstants, "\nconst e", "\n\"const e"),
		replace(t, tenConstants, "const e", "// const e"),
		replace(t, tenConstants, "\nconst e", "#\nconst e"),
		edit(0, 0, ""), edit(0, 0, "{"), edit(0, 1, ""), edit(0, len(tenConstants), ""),
		edit(0, len(tenConstants), "fn f() {}"), edit(1, len(tenConstants)-1, ""),
		edit(0, len(tenConstants), tenConstants), edit(0, 0, tenConstants),
		edit(len(tenConstants), len(tenConstants), ""), edit(len(tenConstants), len(tenConstants), tenConstants),
	} {
		checkUpdate(t, tenConstants, e)
	}
}

// commonStart returns the length of the longest start of both texts.
func commonStart(a, b string) int {
	length := 0
	for length < min(len(a), len(b)) && a[length] == b[length] {
		length++
	}
	return length
}

// follow is a text behind the item in front of it, and what replaces it.
type follow struct{ item, behind, by string }

// An item reaches up to a token that cannot belong to it. If an edit of that
// token or of the one behind it adds to the item, or takes from it, the item
// is not reused.
func TestEditsBehindAnItem(t *testing.T) {
	for _, c := range []follow{
		{"macro m() = a", " ! b", " ! ("},
		{"macro m() = a", " !// c\n // d\n b", " !// c\n // d\n (b)"},
		{"macro m() = a", "!b)", "!(b)"},
		{"macro m() = a", "!b", "!// c\n(b)"},
		{"macro m() = a", " ! /", " ! //\n(b)"},
		{"macro m() = a", " ! b", " + ! b"},
		{"macro m() = a", " !b(c)", " !(c)"},
		{"macro m() = a", " !(b", " !b"},
		{"macro m() = a", " ! = (", " ! ("},
		{"macro m() = a", " ) (b);", " (b);"},
		{"macro m() = a", " b", "::b;"},
		{"macro m() = a", ": :b;", "::b;"},
		{"macro m() = a", "::b", ": :b"},
		{"const c: int = 1", " 2;", " + 2;"},
		{"const c: int = 1", " ) + 2;", " + 2;"},
		{"const c: int = 1", ": = 2;", " == 2;"},
		{"const c: int = a < b", " < c;", " && c;"},
		{"const c: int = 1;", "", ";"},
		{"const c", " # int = 1;", ": int = 1;"},
		{"use a", " b", "::b;"},
		{"use a", " * ;", "::*;"},
		{"use a::b", " c", " as c;"},
		{"use a::b", " :*;", " ::*;"},
		{"use a as", " :: d;", " d;"},
		{"pub", " c", " const c"},
		{"pub", " pub", " fn"},
		{"pub", " fn f() {}", " 1 fn f() {}"},
		{"1 2", " 3", " fn"},
		{"1 2", " fn", " 3"},
		{"fn f()", " ; {}", " {}"},
		{"fn f()", " > int {}", " -> int {}"},
		{"fn f() {", " fn g() {}", " 1 }"},
		{"fn f() {", " const g: int = 1;", " let g: int = 1; }"},
		{"fn f() {}", " {}", " }"},
		{"fn f() { a", " pub fn g() {}", "(pub fn g() {}"},
		{"impl S", " T {}", " for T {}"},
		{"impl S", " + T {}", "<T> {}"},
		{"impl S {}", " for T", " fn"},
		{"impl S { type A = B", " ; }", "; }"},
		{"trait T {", " 1 fn f(); }", " fn f(); }"},
		{"trait T { fn f();", " const c: int = 1;", " type c = int;"},
		{"struct S {", " use a;", " a: b, }"},
		{"struct S { a: b", " use c::d; }", ", c: d }"},
		{"enum E { A(b", " const c: int = 1;", ", fn(c) -> int) }"},
		{"struct S<A: B", " enum C {}", " + C> {}"},
		{"fn f(", " struct S {}", " a: b) {}"},
	} {
		for _, before := range []string{"", "fn z() {}\n", "# // z\n"} {
			for _, after := range []string{"", ";", " }\n// end", "\nconst y: int = 1;\nfn x() {}"} {
				src := before + c.item + c.behind + after
				start, end := len(before+c.item), len(before+c.item+c.behind)
				checkUpdate(t, src, edit(start, end, c.by))
				same := commonStart(c.behind, c.by)
				checkUpdate(t, src, edit(start+same, end, c.by[same:]))
			}
		}
	}
}

// White space and comments belong to the token behind them.
func TestWhiteSpaceAndComments(t *testing.T) {
	const src = "use a;// b\n\nfn f() {} // c\n\n// d\npub fn g() {}\n// e\n"
	for _, e := range []api.TextEdit{
		replace(t, src, "// b\n", ""), replace(t, src, "\n\nfn", "fn"), replace(t, src, "// c\n", "/ c\n"),
		replace(t, src, "// d", "pub // d"), replace(t, src, "// d", "const d: int = 1;"),
		replace(t, src, "// e\n", ""), replace(t, src, "// e", "fn e() {}"), replace(t, src, "// e\n", " }\n"),
		replace(t, src, "pub fn g() {}", ""), replace(t, src, "use a;", ""), replace(t, src, "fn f() {} ", ""),
		edit(len(src), len(src), "\n"), edit(len(src), len(src), "const"),
	} {
		checkUpdate(t, src, e)
	}
}

func TestEditsOfTheEmptySource(t *testing.T) {
	for _, text := range []string{"", " ", "// a", "fn", ")", "fn f() {}", "use a;\nuse b;\nuse c;", tenConstants} {
		checkUpdate(t, "", edit(0, 0, text))
		checkUpdate(t, text, edit(0, len(text), ""))
	}
}

func TestLongestSources(t *testing.T) {
	pad := func(src string) string { return src + strings.Repeat("\n", api.MaxSource-len(src)) }
	items := pad(strings.Repeat("fn f(){}\n", 222))
	last := strings.LastIndex(items, "f()")
	if _, reused := checkUpdate(t, items, edit(last, last+1, "g")); reused < 220 {
		t.Errorf("%d of 222 functions are reused", reused)
	}
	checkUpdate(t, items, edit(0, 1, ""))
	checkUpdate(t, items, edit(0, api.MaxSource, ""))
	checkUpdate(t, "", edit(0, 0, items))
	checkUpdate(t, items, edit(0, api.MaxSource, pad("const c: int = 1;")))
	checkUpdate(t, items[1:], edit(0, 0, "f"))
	checkUpdate(t, items[:api.MaxSource-1], edit(api.MaxSource-1, api.MaxSource-1, "}"))
	for _, deep := range []string{"(", "{", "-", "if ", "|", "fn(", "&", "match a { _ => ", ".", "new a { b: "} {
		const start = "const c: int = 1;\nmacro m() = "
		src := start + strings.Repeat(deep, (api.MaxSource-len(start))/len(deep))
		checkUpdate(t, src, edit(len(src)-1, len(src), ""))
		checkUpdate(t, src, edit(len(start), len(start)+len(deep), "a"))
	}
}

// Results share no memory with arguments or with later results.
func TestArgumentsAndResultsAreIndependent(t *testing.T) {
	e := replace(t, tenConstants, "2", "3")
	tree, want := treeOf(t, tenConstants), treeOf(t, apply(tenConstants, e))
	before := copyOf(tree)
	first, reused, _ := reparse.Update(tenConstants, tree, e)
	if !sameTree(tree, before) {
		t.Errorf("the argument was modified: %v", tree)
	}
	spoil(first)
	if !sameTree(tree, before) {
		t.Errorf("the argument shares memory with the result: %v", tree)
	}
	second, again, _ := reparse.Update(tenConstants, tree, e)
	spoil(tree)
	if !sameTree(second, want) || again != reused {
		t.Errorf("Update = %v, %d after other trees were modified, want %v, %d", second, again, want, reused)
	}
}

// spoil modifies all children of a tree.
func spoil(tree api.SyntaxTree) {
	for i := range tree.Children {
		spoil(tree.Children[i])
		tree.Children[i].Kind = api.TokenEOF
	}
}
