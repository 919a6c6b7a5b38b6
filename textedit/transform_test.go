package textedit_test

import (
	"strings"
	"testing"

	"glossator/api"
	"glossator/textedit"
)

func TestTransform(t *testing.T) {
	for _, c := range []struct {
		what                           string
		source                         string
		left, right                    []api.TextEdit
		leftAfterRight, rightAfterLeft []api.TextEdit
	}{
		{"example", "abc", list(edit(1, 1, "1")), list(edit(0, 2, "2")),
			list(edit(1, 1, "1")), list(edit(0, 1, "2"), edit(2, 3, ""))},
		{"both nil", "abc", nil, nil, nil, nil},
		{"empty source", "", []api.TextEdit{}, []api.TextEdit{}, nil, nil},
		{"insertions into the empty source", "", list(edit(0, 0, "1")), list(edit(0, 0, "2")),
			list(edit(0, 0, "1")), list(edit(1, 1, "2"))},
		{"left only", "abc", list(edit(2, 3, "z")), nil, list(edit(2, 3, "z")), nil},
		{"right only", "abc", nil, list(edit(2, 3, "z")), nil, list(edit(2, 3, "z"))},
		{"edits without effect", "abc", list(edit(1, 1, "")), list(edit(1, 1, "")), nil, nil},
		{"left is inserted first", "abc", list(edit(1, 1, "1")), list(edit(1, 1, "2")),
			list(edit(1, 1, "1")), list(edit(2, 2, "2"))},
		{"left is inserted first at the end", "abc", list(edit(3, 3, "1")), list(edit(3, 3, "2")),
			list(edit(3, 3, "1")), list(edit(4, 4, "2"))},
		{"the same insertion happens twice", "abc", list(edit(1, 1, "x")), list(edit(1, 1, "x")),
			list(edit(1, 1, "x")), list(edit(2, 2, "x"))},
		{"the same deletion happens once", "abc", list(edit(1, 2, "")), list(edit(1, 2, "")), nil, nil},
		{"the same replacement", "abc", list(edit(1, 2, "x")), list(edit(1, 2, "x")),
			list(edit(1, 1, "x")), list(edit(2, 2, "x"))},
		{"overlapping deletions", "abc", list(edit(0, 2, "")), list(edit(1, 3, "")),
			list(edit(0, 1, "")), list(edit(0, 1, ""))},
		{"insertion into a deleted range", "abcd", list(edit(1, 3, "")), list(edit(2, 2, "x")),
			list(edit(1, 2, ""), edit(3, 4, "")), list(edit(1, 1, "x"))},
		{"insertion at the end of a replaced range", "abcd", list(edit(1, 3, "L")), list(edit(3, 3, "R")),
			list(edit(1, 3, "L")), list(edit(2, 2, "R"))},
		{"insertion at the start of a replaced range", "abcd", list(edit(1, 3, "L")), list(edit(1, 1, "R")),
			list(edit(1, 1, "L"), edit(2, 4, "")), list(edit(2, 2, "R"))},
		{"adjacent replacements", "abcd", list(edit(2, 4, "L")), list(edit(0, 2, "R")),
			list(edit(1, 3, "L")), list(edit(0, 2, "R"))},
		{"arbitrary bytes", "\xff\x00", list(edit(0, 1, "\xc3")), list(edit(1, 2, "\xa4")),
			list(edit(0, 1, "\xc3")), list(edit(1, 2, "\xa4"))},
	} {
		leftAfterRight, rightAfterLeft, err := textedit.Transform(c.source, c.left, c.right)
		checkErrno(t, c.what, err, api.OK)
		checkEdits(t, c.what+": leftAfterRight", leftAfterRight, c.leftAfterRight)
		checkEdits(t, c.what+": rightAfterLeft", rightAfterLeft, c.rightAfterLeft)
	}
}

func checkTransformFails(t *testing.T, what, source string, left, right []api.TextEdit, want api.Errno) {
	t.Helper()
	leftAfterRight, rightAfterLeft, err := textedit.Transform(source, left, right)
	checkErrno(t, what, err, want)
	checkEdits(t, what+": leftAfterRight", leftAfterRight, nil)
	checkEdits(t, what+": rightAfterLeft", rightAfterLeft, nil)
}

func TestTransformErrors(t *testing.T) {
	malformed := list(edit(2, 1, ""))
	tooMany := make([]api.TextEdit, api.MaxEdits+1)
	for _, c := range []struct {
		what        string
		source      string
		left, right []api.TextEdit
		err         api.Errno
	}{
		{"left before right", "abc", malformed, tooMany, api.ErrMalformed},
		{"left before right, reversed", "abc", tooMany, malformed, api.ErrTooLarge},
		{"right malformed", "abc", nil, malformed, api.ErrMalformed},
		{"right refers to the source, not to the result of left", "abc", list(edit(3, 3, "def")), list(edit(5, 6, "")), api.ErrMalformed},
		{"right malformed before a long merged string", blank(api.MaxSource), list(edit(0, 1, "x")), list(edit(2, 1, "")), api.ErrMalformed},
	} {
		checkTransformFails(t, c.what, c.source, c.left, c.right, c.err)
	}
	for _, c := range invalidEdits {
		checkTransformFails(t, c.what+" in left", c.source, c.edits, nil, c.err)
		checkTransformFails(t, c.what+" in right", c.source, nil, c.edits, c.err)
	}
}

func TestTransformLongestMergedString(t *testing.T) {
	source := blank(1000)
	left, right := list(edit(0, 0, blank(500))), list(edit(1000, 1000, blank(500)))
	leftAfterRight, rightAfterLeft, err := textedit.Transform(source, left, right)
	checkErrno(t, "longest", err, api.OK)
	checkEdits(t, "longest: leftAfterRight", leftAfterRight, left)
	checkEdits(t, "longest: rightAfterLeft", rightAfterLeft, list(edit(1500, 1500, blank(500))))
	right[0].NewText += "x"
	checkTransformFails(t, "one byte too long", source, left, right, api.ErrTooLarge)
	checkTransformFails(t, "one byte too long, swapped", source, right, left, api.ErrTooLarge)
}

// Insertions split a concurrent deletion into one edit more than there are
// insertions.
func TestTransformMostEdits(t *testing.T) {
	source := blank(200)
	deletion := list(edit(0, 200, ""))
	insertions := everySecond(api.MaxEdits-1, 1, 0, "x")
	// The result of insertions starts with " x  x  x", and so on.
	split := list(edit(0, 1, ""))
	for i := 1; i < len(insertions); i++ {
		split = append(split, edit(3*i-1, 3*i+1, ""))
	}
	split = append(split, edit(3*len(insertions)-1, 200+len(insertions), ""))
	joined := list(edit(0, 0, strings.Repeat("x", len(insertions))))

	leftAfterRight, rightAfterLeft, err := textedit.Transform(source, deletion, insertions)
	checkErrno(t, "left deletes", err, api.OK)
	checkEdits(t, "left deletes: leftAfterRight", leftAfterRight, split)
	checkEdits(t, "left deletes: rightAfterLeft", rightAfterLeft, joined)
	leftAfterRight, rightAfterLeft, err = textedit.Transform(source, insertions, deletion)
	checkErrno(t, "right deletes", err, api.OK)
	checkEdits(t, "right deletes: leftAfterRight", leftAfterRight, joined)
	checkEdits(t, "right deletes: rightAfterLeft", rightAfterLeft, split)

	insertions = everySecond(api.MaxEdits, 1, 0, "x")
	checkTransformFails(t, "left deletes, one edit too many", source, deletion, insertions, api.ErrTooLarge)
	checkTransformFails(t, "right deletes, one edit too many", source, insertions, deletion, api.ErrTooLarge)
}

// mergedString follows the definition of the merged string literally.
func mergedString(source string, left, right []api.TextEdit) string {
	merged := ""
	for offset := 0; offset <= len(source); offset++ {
		retained := offset < len(source)
		for _, edits := range [][]api.TextEdit{left, right} {
			for _, e := range edits {
				if e.Start == offset {
					merged += e.NewText
				}
				if e.Start <= offset && offset < e.End {
					retained = false
				}
			}
		}
		if retained {
			merged += source[offset : offset+1]
		}
	}
	return merged
}

// All bytes that occur are different, so that the strings show which bytes are
// retained.
func TestTransformConvergesAndIsCanonical(t *testing.T) {
	const source = "abc"
	lists := allEdits(len(source), []string{"", "x", "xx"})
	for _, left := range lists {
		left = recolored(left, 'A')
		afterLeft := apply(t, source, left)
		for _, right := range lists {
			right = recolored(right, '0')
			afterRight := apply(t, source, right)
			merged := mergedString(source, left, right)
			leftAfterRight, rightAfterLeft, err := textedit.Transform(source, left, right)
			checkErrno(t, "Transform", err, api.OK)
			checkEdits(t, "leftAfterRight", leftAfterRight, canonicalByValue(afterRight, merged))
			checkEdits(t, "rightAfterLeft", rightAfterLeft, canonicalByValue(afterLeft, merged))
			if apply(t, afterRight, leftAfterRight) != merged || apply(t, afterLeft, rightAfterLeft) != merged {
				t.Fatalf("Transform(%v, %v) = %v, %v does not yield %q", left, right, leftAfterRight, rightAfterLeft, merged)
			}
		}
	}
}
