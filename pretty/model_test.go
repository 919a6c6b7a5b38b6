package pretty_test

import (
	"math/rand"
	"reflect"
	"slices"
	"strings"
	"testing"

	"glossator/api"
	"glossator/pretty"
)

// layout is one of the layouts of a document: which groups, in document order,
// are flat, and the text that results.
type layout struct {
	flat            []bool
	text            string
	overflow, lines int
}

// hasHardLine reports whether a document contains a hard line.
func hasHardLine(doc api.Doc) bool {
	return doc.Kind == api.DocHardLine || slices.ContainsFunc(doc.Children, hasHardLine)
}

func countGroups(doc api.Doc) int {
	groups := 0
	if doc.Kind == api.DocGroup {
		groups++
	}
	for _, child := range doc.Children {
		groups += countGroups(child)
	}
	return groups
}

// writer writes the layout that a list of decisions describes, if there is one.
type writer struct {
	decisions []bool // those that are left
	out       strings.Builder
	wrong     bool
}

func (w *writer) write(doc api.Doc, indent int, flat bool) {
	switch {
	case doc.Kind == api.DocText, doc.Kind == api.DocLine && flat:
		w.out.WriteString(doc.Text)
	case doc.Kind == api.DocLine, doc.Kind == api.DocHardLine:
		w.out.WriteString("\n" + strings.Repeat(" ", indent))
	case doc.Kind == api.DocNest:
		indent += doc.Indent
	case doc.Kind == api.DocGroup:
		decision := w.decisions[0]
		w.decisions = w.decisions[1:]
		w.wrong = w.wrong || flat && !decision || decision && hasHardLine(doc)
		flat = decision
	}
	for _, child := range doc.Children {
		w.write(child, indent, flat)
	}
}

// layouts returns all layouts of a document, measured for a width.
func layouts(doc api.Doc, width int) []layout {
	groups := countGroups(doc)
	var all []layout
	for bits := range 1 << groups {
		l := layout{}
		for i := range groups {
			l.flat = append(l.flat, bits>>i&1 == 1)
		}
		w := writer{decisions: l.flat}
		w.write(doc, 0, false)
		if w.wrong {
			continue
		}
		l.text = w.out.String()
		for _, line := range strings.Split(l.text, "\n") {
			l.overflow += max(0, len(line)-width)
			l.lines++
		}
		all = append(all, l)
	}
	return all
}

// only returns the layouts that have a property.
func only(all []layout, property func(layout) bool) []layout {
	var some []layout
	for _, l := range all {
		if property(l) {
			some = append(some, l)
		}
	}
	return some
}

// bestLayout picks the layout that P125 describes, in its words.
func bestLayout(all []layout) layout {
	best := only(all, func(l layout) bool {
		return !slices.ContainsFunc(all, func(m layout) bool {
			return m.overflow < l.overflow || m.overflow == l.overflow && m.lines < l.lines
		})
	})
	for group := range best[0].flat {
		if flat := only(best, func(l layout) bool { return l.flat[group] }); len(flat) > 0 {
			best = flat
		}
	}
	return best[0]
}

// checkAgainstModel renders a document and compares the result with the model.
func checkAgainstModel(t *testing.T, doc api.Doc, width int) {
	t.Helper()
	want := bestLayout(layouts(doc, width))
	got, err := pretty.Render(doc, width)
	if got != want.text || err != api.OK {
		t.Fatalf("Render(%v, %d) = %q, error %d, want %q", doc, width, got, err, want.text)
	}
	overflow, lines := pretty.Measure(got, width)
	if overflow != want.overflow || lines != want.lines {
		t.Fatalf("Measure(%q, %d) = %d, %d, want %d, %d", got, width, overflow, lines, want.overflow, want.lines)
	}
}

// forests calls visit with every list of documents that has n nodes. The nodes
// are of all kinds, and the texts and indents are few.
func forests(n int, visit func([]api.Doc)) {
	if n == 0 {
		visit(nil)
		return
	}
	for below := range n {
		forests(n-1-below, func(rest []api.Doc) {
			if below == 0 {
				for _, leaf := range []api.Doc{text("ab"), line(""), line("--"), hard()} {
					visit(append([]api.Doc{leaf}, rest...))
				}
			}
			forests(below, func(children []api.Doc) {
				for _, node := range []api.Doc{nest(1), group(), concat()} {
					node.Children = children
					visit(append([]api.Doc{node}, rest...))
				}
			})
		})
	}
}

// TestRenderAllSmallDocuments tries all documents of up to six nodes.
func TestRenderAllSmallDocuments(t *testing.T) {
	for n := range 6 {
		forests(n, func(children []api.Doc) {
			for width := 1; width <= 5; width++ {
				checkAgainstModel(t, concat(children...), width)
			}
		})
	}
}

// randomDoc returns a document of at most depth levels. It has few groups that
// cannot be flat, because those do not add layouts.
func randomDoc(r *rand.Rand, depth int) api.Doc {
	kind := 1 + r.Intn(6)
	if kind == api.DocHardLine && r.Intn(4) > 0 {
		kind = api.DocLine
	}
	if depth == 1 && kind > api.DocHardLine {
		kind = api.DocText
	}
	switch kind {
	case api.DocText:
		return text(strings.Repeat("a", r.Intn(5)))
	case api.DocLine:
		return line(strings.Repeat("-", r.Intn(3)))
	case api.DocHardLine:
		return hard()
	}
	doc := api.Doc{Kind: kind}
	if kind == api.DocNest {
		doc.Indent = r.Intn(4)
	}
	for range 1 + r.Intn(4) {
		doc.Children = append(doc.Children, randomDoc(r, depth-1))
	}
	return doc
}

func TestRenderRandomDocuments(t *testing.T) {
	r := rand.New(rand.NewSource(11))
	for tested := 0; tested < 6000; {
		doc := concat(randomDoc(r, 5), randomDoc(r, 5), randomDoc(r, 5))
		if groups := countGroups(doc); groups < 2 || groups > 8 {
			continue
		}
		tested++
		for range 3 {
			checkAgainstModel(t, doc, 1+r.Intn(16))
		}
	}
}

// TestRenderRandomParagraphs has documents in which every line is in a group
// of its own, so that many layouts are equally good.
func TestRenderRandomParagraphs(t *testing.T) {
	r := rand.New(rand.NewSource(125))
	for range 1500 {
		var children []api.Doc
		for range 8 {
			blank := group(nest(r.Intn(3), line(" ")))
			children = append(children, text(strings.Repeat("a", r.Intn(5))), blank)
		}
		for width := 3; width < 20; width += 4 {
			checkAgainstModel(t, concat(children...), width)
		}
	}
}

func copyOf(doc api.Doc) api.Doc {
	children := doc.Children
	doc.Children = nil
	for _, child := range children {
		doc.Children = append(doc.Children, copyOf(child))
	}
	return doc
}

// TestRenderKeepsArguments renders random documents twice, and compares them
// with copies.
func TestRenderKeepsArguments(t *testing.T) {
	r := rand.New(rand.NewSource(4))
	for range 500 {
		doc := randomDoc(r, 6)
		saved := copyOf(doc)
		first, _ := pretty.Render(doc, 9)
		second, _ := pretty.Render(doc, 9)
		if first != second {
			t.Fatalf("Render(%v, 9) = %q, and then %q", doc, first, second)
		}
		if !reflect.DeepEqual(doc, saved) {
			t.Fatalf("Render changed %v to %v", saved, doc)
		}
	}
}

// TestRenderSharedChildren has a document that has the same children in
// different places.
func TestRenderSharedChildren(t *testing.T) {
	r := rand.New(rand.NewSource(9))
	for range 500 {
		shared := randomDoc(r, 3).Children
		doc := concat(group(shared...), nest(2, shared...), group(nest(1, shared...), text("b")))
		if countGroups(doc) > 10 {
			continue
		}
		checkAgainstModel(t, doc, 1+r.Intn(12))
	}
}
