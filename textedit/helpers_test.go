package textedit_test

import (
	"fmt"
	"slices"
	"strings"
	"testing"

	"glossator/api"
	"glossator/textedit"
)

func edit(start, end int, text string) api.TextEdit {
	return api.TextEdit{Start: start, End: end, NewText: text}
}

func list(edits ...api.TextEdit) []api.TextEdit { return edits }

func blank(length int) string { return strings.Repeat(" ", length) }

// everySecond returns count edits at the offsets first, first+2, first+4, ...
func everySecond(count, first, deleted int, text string) []api.TextEdit {
	var edits []api.TextEdit
	for i := range count {
		start := first + 2*i
		edits = append(edits, edit(start, start+deleted, text))
	}
	return edits
}

func checkErrno(t *testing.T, what string, got, want api.Errno) {
	t.Helper()
	if got != want {
		t.Errorf("%s: error %d, want %d", what, got, want)
	}
}

func checkEdits(t *testing.T, what string, got, want []api.TextEdit) {
	t.Helper()
	if !slices.Equal(got, want) {
		t.Errorf("%s: got %#v, want %#v", what, got, want)
	}
}

// apply applies edits that have to be valid.
func apply(t *testing.T, source string, edits []api.TextEdit) string {
	t.Helper()
	result, err := textedit.Apply(source, edits)
	if err != api.OK {
		t.Fatalf("Apply(%q, %#v): error %d", source, edits, err)
	}
	return result
}

// allEdits returns all valid lists of edits of a source of the given length
// with the given new texts.
func allEdits(length int, texts []string) [][]api.TextEdit {
	return editsFrom(0, length, texts)
}

// editsFrom returns the lists of allEdits that start at min or behind it.
func editsFrom(min, length int, texts []string) [][]api.TextEdit {
	lists := [][]api.TextEdit{nil}
	for start := min; start <= length; start++ {
		for end := start; end <= length; end++ {
			for _, rest := range editsFrom(end+1, length, texts) {
				for _, text := range texts {
					lists = append(lists, append(list(edit(start, end, text)), rest...))
				}
			}
		}
	}
	return lists
}

// recolored returns the edits with every byte of the new texts replaced by
// another one, so that all inserted bytes are different.
func recolored(edits []api.TextEdit, first byte) []api.TextEdit {
	result := slices.Clone(edits)
	for i := range result {
		text := []byte(result[i].NewText)
		for j := range text {
			text[j] = first
			first++
		}
		result[i].NewText = string(text)
	}
	return result
}

// canonicalByValue returns the canonical list of edits between two strings
// without repeated bytes, in which a byte is retained if both strings have it.
func canonicalByValue(from, to string) []api.TextEdit {
	var edits []api.TextEdit
	i, j := 0, 0
	for {
		start, textStart := i, j
		for i < len(from) && strings.IndexByte(to, from[i]) < 0 {
			i++
		}
		for j < len(to) && strings.IndexByte(from, to[j]) < 0 {
			j++
		}
		if i > start || j > textStart {
			edits = append(edits, edit(start, i, to[textStart:j]))
		}
		if i == len(from) && j == len(to) {
			return edits
		}
		if i == len(from) || j == len(to) || from[i] != to[j] {
			panic(fmt.Sprintf("no canonical list from %q to %q", from, to))
		}
		i++
		j++
	}
}

// checkUnchanged runs a call and reports an error if it modifies the edits.
func checkUnchanged(t *testing.T, what string, edits []api.TextEdit, call func()) {
	t.Helper()
	before := slices.Clone(edits)
	call()
	checkEdits(t, what+" modified its argument", edits, before)
}
