package pretty_test

import (
	"strings"
	"testing"

	"glossator/api"
	"glossator/pretty"
)

func text(s string) api.Doc { return api.Doc{Kind: api.DocText, Text: s} }

func line(flat string) api.Doc { return api.Doc{Kind: api.DocLine, Text: flat} }

func hard() api.Doc { return api.Doc{Kind: api.DocHardLine} }

func nest(indent int, children ...api.Doc) api.Doc {
	return api.Doc{Kind: api.DocNest, Indent: indent, Children: children}
}

func group(children ...api.Doc) api.Doc { return api.Doc{Kind: api.DocGroup, Children: children} }

func concat(children ...api.Doc) api.Doc { return api.Doc{Kind: api.DocConcat, Children: children} }

// words returns "a b c" with a line between the words.
func words(names ...string) api.Doc {
	var children []api.Doc
	for i, name := range names {
		if i > 0 {
			children = append(children, line(" "))
		}
		children = append(children, text(name))
	}
	return concat(children...)
}

// paragraph returns n words of three bytes with a group for the line in front
// of each but the first, so that every line can be broken by itself.
func paragraph(n int) api.Doc {
	children := []api.Doc{text("aaa")}
	for range n - 1 {
		children = append(children, group(line(" ")), text("aaa"))
	}
	return concat(children...)
}

// rendering is a document, a width and the best layout for it.
type rendering struct {
	doc   api.Doc
	width int
	want  string
}

func checkRenderings(t *testing.T, renderings []rendering) {
	t.Helper()
	for _, r := range renderings {
		got, err := pretty.Render(r.doc, r.width)
		if got != r.want || err != api.OK {
			t.Errorf("Render(%v, %d) = %q, error %d, want %q", r.doc, r.width, got, err, r.want)
		}
	}
}

func TestRenderKinds(t *testing.T) {
	checkRenderings(t, []rendering{
		{text("abc"), 10, "abc"},
		{text(""), 10, ""},
		{line("-"), 10, "\n"},
		{group(line("-")), 10, "-"},
		{group(line("")), 10, ""},
		{hard(), 10, "\n"},
		{group(hard()), 10, "\n"},
		{nest(3, text("a")), 10, "a"},
		{nest(3, hard()), 10, "\n   "},
		{nest(3, line("-")), 10, "\n   "},
		{nest(3), 10, ""},
		{group(), 10, ""},
		{concat(), 10, ""},
		{concat(text("a"), text("b"), text("c")), 10, "abc"},
		{nest(1, text("a"), line(" "), text("b")), 10, "a\n b"},
		{group(words("a", "b", "c")), 5, "a b c"},
		{group(words("a", "b", "c")), 4, "a\nb\nc"},
		{group(text("f("), nest(2, line(""), text("x,"), line(" "), text("y")), line(""), text(")")), 7, "f(x, y)"},
		{group(text("f("), nest(2, line(""), text("x,"), line(" "), text("y")), line(""), text(")")), 6, "f(\n  x,\n  y\n)"},
	})
}

func TestRenderIndentation(t *testing.T) {
	checkRenderings(t, []rendering{
		{nest(2, hard(), nest(3, hard(), text("a")), hard(), text("b")), 10, "\n  \n     a\n  b"},
		{nest(0, hard(), text("a")), 10, "\na"},
		{nest(40, nest(40, hard(), text("a"))), 10, "\n" + strings.Repeat(" ", 80) + "a"},
		{concat(nest(2, hard()), text("a"), hard(), text("b")), 10, "\n  a\nb"},
		{group(nest(2, words("a", "b"), nest(3, group(words("c", "d"))))), 9, "a bc d"},
		{nest(1, group(nest(2, concat(nest(3, hard()))))), 10, "\n      "},
		// Lines keep their indentation if nothing follows on them.
		{nest(2, hard(), hard(), text("a"), hard()), 10, "\n  \n  a\n  "},
		// Only a DocNest indents.
		{api.Doc{Kind: api.DocConcat, Indent: 3, Children: []api.Doc{hard()}}, 10, "\n"},
		{api.Doc{Kind: api.DocGroup, Indent: 3, Children: []api.Doc{hard()}}, 10, "\n"},
		{api.Doc{Kind: api.DocHardLine, Indent: 3}, 10, "\n"},
		{api.Doc{Kind: api.DocLine, Indent: 3}, 10, "\n"},
		{api.Doc{Kind: api.DocText, Indent: 3, Text: "a"}, 10, "a"},
	})
}

func TestRenderFlatGroups(t *testing.T) {
	pair := group(words("a", "b"))
	checkRenderings(t, []rendering{
		// Text outside of all groups is broken, also where it would fit.
		{words("a", "b"), 200, "a\nb"},
		{concat(pair, line(" "), pair), 200, "a b\na b"},
		// All groups inside a flat group are flat.
		{group(pair, line(" "), group(group(words("c", "d")))), 7, "a b c d"},
		{group(pair, line(" "), nest(2, group(words("c", "d")))), 6, "a b\nc d"},
		{group(pair, line(" "), nest(2, group(line(" "), words("c", "d")))), 3, "a b\n\n  c\n  d"},
		// What follows a flat group is not flat.
		{concat(group(text("a")), line(" "), text("b")), 9, "a\nb"},
		{group(group(words("a", "b")), hard(), words("c", "d")), 9, "a b\nc\nd"},
		// A group with a hard line, however deep, cannot be flat.
		{group(words("a", "b"), hard(), text("c")), 9, "a\nb\nc"},
		{group(words("a", "b"), nest(1, concat(group(hard(), words("c", "d"))))), 9, "a\nb\n c\n d"},
		{group(words("a", "b"), group(group(hard()), pair)), 9, "a\nb\na b"},
		{group(group(hard()), words("a", "b")), 9, "\na\nb"},
		// The text of a hard line, a group, a nest and a concat is none of the layout.
		{api.Doc{Kind: api.DocHardLine, Text: "x"}, 9, "\n"},
		{api.Doc{Kind: api.DocGroup, Text: "x", Children: []api.Doc{pair}}, 9, "a b"},
		{api.Doc{Kind: api.DocGroup, Text: "xxx", Children: []api.Doc{pair}}, 3, "a b"},
		{api.Doc{Kind: api.DocNest, Text: "x", Children: []api.Doc{pair}}, 9, "a b"},
		{api.Doc{Kind: api.DocConcat, Text: "x", Children: []api.Doc{pair}}, 9, "a b"},
	})
}

func TestRenderOverflow(t *testing.T) {
	checkRenderings(t, []rendering{
		// A break in front of a text that does not fit behind the group.
		{concat(group(words("a", "b")), text("ccc")), 6, "a bccc"},
		{concat(group(words("a", "b")), text("ccc")), 5, "a\nbccc"},
		{concat(text("ccc"), group(words("a", "b"))), 6, "ccca b"},
		{concat(text("ccc"), group(words("a", "b"))), 5, "ccca\nb"},
		// A group is flat beyond the width if breaking it is no better.
		{group(text("a"), nest(3, line(""), text("bbb"))), 3, "abbb"},
		{group(text("aaa"), nest(3, line(""), text("b"))), 3, "aaab"},
		{group(text("aaa"), nest(2, line(""), text("b"))), 3, "aaa\n  b"},
		{group(text("aaaa"), line(""), text("bb")), 3, "aaaa\nbb"},
		{group(line(""), text("aaaa")), 3, "aaaa"},
		{group(text("aaaa"), line("")), 3, "aaaa"},
		{group(text("aaaa"), line(" ")), 3, "aaaa\n"},
		{text("abc"), 1, "abc"},
		// Indentation counts, also on a line without text.
		{group(nest(3, line("--"))), 2, "--"},
		{group(nest(2, line("---"))), 2, "\n  "},
		{group(nest(4, line("---"))), 2, "---"},
		{group(nest(3, line("---"))), 2, "---"},
		{group(nest(40, line(strings.Repeat("-", 40)))), 1, strings.Repeat("-", 40)},
		{group(nest(40, line(strings.Repeat("-", 41)))), 1, "\n" + strings.Repeat(" ", 40)},
		// Overflow is summed over the lines, and not that of the longest line.
		{group(text("aaa"), nest(2, line(""), text("b"))), 1, "aaab"},
		{group(text("aa"), nest(1, line(""), text("b"))), 1, "aab"},
		{group(text("aa"), line(""), text("b")), 1, "aa\nb"},
		// Bytes are counted, not characters.
		{group(words("é", "b")), 4, "é b"},
		{group(words("é", "b")), 3, "é\nb"},
		{group(words("\xff\x00\r", "b")), 5, "\xff\x00\r b"},
		{group(words("\xff\x00\r", "b")), 4, "\xff\x00\r\nb"},
		// What follows much later can decide about a group.
		{concat(text("a"), group(line(" ")), text("b"), group(text("c"), group(text("d"), text("ee")))), 7, "a bcdee"},
		{concat(text("a"), group(line(" ")), text("b"), group(text("c"), group(text("d"), text("ee")))), 6, "a\nbcdee"},
	})
}

func TestRenderFewestLines(t *testing.T) {
	inner := nest(2, line(" "), text("cc"), line(" "), text("dd"))
	checkRenderings(t, []rendering{
		{concat(text("aa"), group(line(" ")), text("bb"), group(inner)), 8, "aa\nbb cc dd"},
		{concat(text("aa"), group(line(" ")), text("bb"), group(inner)), 7, "aa bb\n  cc\n  dd"},
		{concat(text("aa"), group(line(" ")), text("bb"), group(inner)), 11, "aa bb cc dd"},
		{group(group(words("a", "b")), line(" "), group(words("c", "d"))), 6, "a b\nc d"},
		{group(group(words("a", "b")), line(" "), group(words("c", "d"))), 2, "a\nb\nc\nd"},
	})
}

func TestRenderFirstGroupsFlat(t *testing.T) {
	blank := group(line(" "))
	checkRenderings(t, []rendering{
		{concat(text("a"), blank, text("b"), blank, text("c")), 3, "a b\nc"},
		{concat(text("a"), blank, text("b"), blank, text("c"), blank, text("d")), 3, "a b\nc d"},
		{concat(text("a"), blank, text("b"), blank, text("cc"), blank, text("d")), 4, "a b\ncc d"},
		{group(text("a"), blank, text("b"), blank, text("c"), hard()), 3, "a b\nc\n"},
		// Not the first one alone, but flat and broken together decide.
		{concat(text("a"), blank, text("bb"), blank, text("c")), 4, "a bb\nc"},
		{concat(text("aa"), blank, text("bb"), blank, text("c")), 4, "aa\nbb c"},
		{paragraph(5), 10, "aaa aaa\naaa aaa\naaa"},
		{paragraph(6), 11, "aaa aaa aaa\naaa aaa aaa"},
	})
}

// TestRenderLargeDocuments has documents with so many layouts that they cannot
// all be tried.
func TestRenderLargeDocuments(t *testing.T) {
	two := strings.Repeat("aaa aaa\n", 1332) + "aaa aaa" // 2666 words have 7997 nodes
	checkRenderings(t, []rendering{
		{paragraph(2666), 10, two},
		{paragraph(2666), 7, two},
		{paragraph(2666), 6, strings.ReplaceAll(two, " ", "\n")},
		{paragraph(2666), 1, strings.ReplaceAll(two, " ", "\n")},
	})
	nested, flat := text("a"), "a"
	for i := range 29 {
		nested = group(nest(1, nested), line("-"), text("b"))
		flat += "-b"
		checkRenderings(t, []rendering{{nested, 2*i + 3, flat}, {nested, 2*i + 2, flat[:2*i+1] + "\nb"}})
	}
}
