package pretty_test

import (
	"math"
	"testing"

	"glossator/api"
	"glossator/pretty"
)

// wrapped returns a document below n nodes that have one child each.
func wrapped(doc api.Doc, n int) api.Doc {
	for range n {
		doc = concat(doc)
	}
	return doc
}

// wide returns a document with n nodes.
func wide(n int) api.Doc { return concat(make([]api.Doc, n-1)...) }

// widened returns a document with n nodes below the first of which there are
// texts.
func widened(n int) api.Doc {
	doc := wide(n)
	for i := range doc.Children {
		doc.Children[i] = text("")
	}
	return doc
}

// doubled returns a document with 2^depth nodes or more that needs little
// memory.
func doubled(depth int) api.Doc {
	doc := text("a")
	for range depth - 1 {
		doc = concat(doc, doc)
	}
	return doc
}

// endless returns a document that contains itself.
func endless() api.Doc {
	doc := group(text("a"), text("b"))
	doc.Children[1] = doc
	return doc
}

func checkError(t *testing.T, name string, doc api.Doc, width int, want api.Errno) {
	t.Helper()
	got, err := pretty.Render(doc, width)
	if err != want || err != api.OK && got != "" {
		t.Errorf("Render of %s, width %d: %q, error %d, want error %d", name, width, got, err, want)
	}
}

func TestRenderTooLarge(t *testing.T) {
	checkError(t, "8000 nodes", widened(8000), 10, api.OK)
	checkError(t, "8001 nodes", widened(8001), 10, api.ErrTooLarge)
	checkError(t, "8000 nodes in two parts", concat(widened(4000), widened(3999)), 10, api.OK)
	checkError(t, "8001 nodes in two parts", concat(widened(4000), widened(4000)), 10, api.ErrTooLarge)
	checkError(t, "depth 60", wrapped(text("a"), 59), 10, api.OK)
	checkError(t, "depth 61", wrapped(text("a"), 60), 10, api.ErrTooLarge)
	checkError(t, "depth 61 without a leaf", wrapped(concat(), 60), 10, api.ErrTooLarge)
	checkError(t, "depth 60 in the second part", concat(text("a"), wrapped(text("a"), 58)), 10, api.OK)
	checkError(t, "depth 61 in the second part", concat(text("a"), wrapped(text("a"), 59)), 10, api.ErrTooLarge)
	checkError(t, "2^12 nodes that share children", doubled(12), 10, api.OK)
	checkError(t, "2^13 nodes that share children", doubled(13), 10, api.ErrTooLarge)
	checkError(t, "2^60 nodes that share children", doubled(60), 10, api.ErrTooLarge)
	checkError(t, "a document that contains itself", endless(), 10, api.ErrTooLarge)
	checkError(t, "10000 levels", wrapped(text("a"), 10000), 10, api.ErrTooLarge)
}

func TestRenderMalformed(t *testing.T) {
	texted := func(kind int, s string) api.Doc { return api.Doc{Kind: kind, Text: s} }
	with := func(kind int, children ...api.Doc) api.Doc { return api.Doc{Kind: kind, Children: children} }
	for name, doc := range map[string]api.Doc{
		"kind 0":                            {},
		"kind 7":                            {Kind: 7},
		"kind -1":                           {Kind: -1},
		"the least kind":                    {Kind: math.MinInt},
		"the greatest kind":                 {Kind: math.MaxInt},
		"a text with a child":               with(api.DocText, text("a")),
		"a line with a child":               with(api.DocLine, text("a")),
		"a hard line with a child":          with(api.DocHardLine, text("a")),
		"a hard line with two children":     with(api.DocHardLine, text("a"), text("b")),
		"a text that is a line feed":        text("\n"),
		"a text that ends with a line feed": text("a\n"),
		"a text with a line feed within":    text("a\nb"),
		"a text with a carriage return too": text("\r\n"),
		"a line with a line feed":           line("\n"),
		"a hard line with a line feed":      texted(api.DocHardLine, "\n"),
		"a nest with a line feed":           texted(api.DocNest, "\n"),
		"a group with a line feed":          texted(api.DocGroup, "\n"),
		"a concat with a line feed":         texted(api.DocConcat, "\n"),
		"indent -1":                         nest(-1),
		"indent 41":                         nest(41),
		"the least indent":                  nest(math.MinInt),
		"the greatest indent":               nest(math.MaxInt),
		"indent 41 in indent 40":            nest(40, nest(41)),
		"indents that sum up to 0":          nest(5, nest(-5, hard())),
	} {
		checkError(t, name, doc, 10, api.ErrMalformed)
		checkError(t, name+" in a concat", concat(text("a"), doc, text("b")), 10, api.ErrMalformed)
		checkError(t, name+" in a nest", nest(1, doc), 10, api.ErrMalformed)
		checkError(t, name+" in a group", group(group(doc)), 10, api.ErrMalformed)
		checkError(t, name+" behind others", concat(hard(), concat(line(""), doc)), 10, api.ErrMalformed)
	}
}

func TestRenderWellFormed(t *testing.T) {
	for name, doc := range map[string]api.Doc{
		"indent 0":                 nest(0, hard()),
		"indent 40":                nest(40, hard()),
		"indent 2320":              wrappedIn(nest(40), 59),
		"a text with any bytes":    text("\x00\r\t\v\f\x85\xff\u2028"),
		"a line with any bytes":    line("\x00\r\t\v\f\x85\xff\u2028"),
		"the indent of a text":     {Kind: api.DocText, Indent: -1},
		"the indent of a line":     {Kind: api.DocLine, Indent: 41},
		"the indent of a hardline": {Kind: api.DocHardLine, Indent: math.MaxInt},
		"the indent of a group":    {Kind: api.DocGroup, Indent: math.MinInt},
		"the indent of a concat":   {Kind: api.DocConcat, Indent: 41},
		"the text of a hard line":  {Kind: api.DocHardLine, Text: "a"},
		"empty children of a text": {Kind: api.DocText, Children: []api.Doc{}},
	} {
		checkError(t, name, doc, 10, api.OK)
	}
}

// wrappedIn returns n copies of a node inside each other around a hard line.
func wrappedIn(node api.Doc, n int) api.Doc {
	doc := hard()
	for range n {
		outer := node
		outer.Children = []api.Doc{doc}
		doc = outer
	}
	return doc
}

func TestRenderWidths(t *testing.T) {
	for _, width := range []int{1, 2, 199, 200} {
		checkError(t, "a text", text("a"), width, api.OK)
	}
	for _, width := range []int{math.MinInt, -1, 0, 201, math.MaxInt} {
		checkError(t, "a text", text("a"), width, api.ErrInvalid)
	}
}

func TestRenderErrorOrder(t *testing.T) {
	checkError(t, "8001 nodes of no kind", wide(8001), 0, api.ErrTooLarge)
	checkError(t, "8000 nodes of no kind", wide(8000), 0, api.ErrMalformed)
	checkError(t, "61 levels above no kind", wrapped(api.Doc{}, 60), 0, api.ErrTooLarge)
	checkError(t, "60 levels above no kind", wrapped(api.Doc{}, 59), 0, api.ErrMalformed)
	checkError(t, "a malformed node in front of 61 levels", concat(api.Doc{}, wrapped(text("a"), 59)), 0, api.ErrTooLarge)
	leaf := text("a")
	leaf.Children = widened(8000).Children
	checkError(t, "a text with 7999 children", leaf, 0, api.ErrMalformed)
	checkError(t, "a text with 7999 children in a concat", concat(leaf), 0, api.ErrTooLarge)
	leaf.Children = []api.Doc{wrapped(text("a"), 59)}
	checkError(t, "a text above 60 levels", leaf, 0, api.ErrTooLarge)
	checkError(t, "a malformed node", api.Doc{}, 201, api.ErrMalformed)
}
