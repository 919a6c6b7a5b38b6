package textedit_test

import (
	"testing"

	"glossator/api"
	"glossator/textedit"
)

func TestCompose(t *testing.T) {
	for _, c := range []struct {
		what                string
		source              string
		first, second, want []api.TextEdit
	}{
		{"example", "abcdef", list(edit(1, 2, "xy"), edit(4, 4, "z")), list(edit(2, 4, "")),
			list(edit(1, 3, "x"), edit(4, 4, "z"))},
		{"both nil", "abcdef", nil, nil, nil},
		{"empty source", "", []api.TextEdit{}, []api.TextEdit{}, nil},
		{"first only", "abcdef", list(edit(1, 2, "x")), nil, list(edit(1, 2, "x"))},
		{"second only", "abcdef", nil, list(edit(0, 1, "Z")), list(edit(0, 1, "Z"))},
		{"edits without effect", "abcdef", list(edit(1, 1, "")), list(edit(2, 2, "")), nil},
		{"insertion that is deleted again", "abcdef", list(edit(0, 0, "ab")), list(edit(0, 2, "")), nil},
		{"insertion of deleted bytes", "abcdef", list(edit(2, 4, "")), list(edit(2, 2, "cd")), list(edit(2, 4, "cd"))},
		{"replacement by the same bytes", "abcdef", list(edit(2, 4, "cd")), nil, list(edit(2, 4, "cd"))},
		{"adjacent deletions are joined", "abcdef", list(edit(1, 2, "")), list(edit(1, 2, "")), list(edit(1, 3, ""))},
		{"adjacent insertions are joined", "abcdef", list(edit(3, 3, "xy")), list(edit(3, 3, "1"), edit(4, 4, "2"), edit(5, 5, "3")),
			list(edit(3, 3, "1x2y3"))},
		{"deletion over an insertion", "abcdef", list(edit(3, 3, "xy")), list(edit(2, 6, "")), list(edit(2, 4, ""))},
		{"deletion up to the end", "abcdef", list(edit(6, 6, "x")), list(edit(5, 7, "")), list(edit(5, 6, ""))},
		{"offsets of the intermediate string", "ab", list(edit(2, 2, "cdef")), list(edit(5, 6, "!")), list(edit(2, 2, "cde!"))},
		{"arbitrary bytes", "\xff\x00", list(edit(1, 2, "\xc3\xa4")), list(edit(1, 2, "\xfe")), list(edit(1, 2, "\xfe\xa4"))},
		{"most edits", blank(200), everySecond(25, 0, 1, ""), everySecond(25, 100, 0, "x"),
			append(everySecond(25, 0, 1, ""), everySecond(25, 125, 0, "x")...)},
	} {
		got, err := textedit.Compose(c.source, c.first, c.second)
		checkErrno(t, c.what, err, api.OK)
		checkEdits(t, c.what, got, c.want)
	}
}

func TestComposeErrors(t *testing.T) {
	malformed := list(edit(2, 1, ""))
	tooMany := make([]api.TextEdit, api.MaxEdits+1)
	for _, c := range []struct {
		what          string
		source        string
		first, second []api.TextEdit
		err           api.Errno
	}{
		{"first before second", "abc", malformed, tooMany, api.ErrMalformed},
		{"first before second, reversed", "abc", tooMany, malformed, api.ErrTooLarge},
		{"second malformed", "abc", nil, malformed, api.ErrMalformed},
		{"second has too many edits", "abc", nil, tooMany, api.ErrTooLarge},
		{"second behind the intermediate string", "abcdef", list(edit(0, 4, "")), list(edit(3, 3, "")), api.ErrMalformed},
		{"intermediate string too long", "abc", list(edit(0, 0, blank(api.MaxSource))), list(edit(0, api.MaxSource, "")), api.ErrTooLarge},
		{"final string too long", "abc", list(edit(0, 0, blank(api.MaxSource-3))), list(edit(0, 0, "x")), api.ErrTooLarge},
		{"one edit too many", blank(200), everySecond(25, 0, 1, ""), everySecond(26, 100, 0, "x"), api.ErrTooLarge},
		{"malformed before too many composed edits", blank(300), everySecond(50, 0, 1, ""), append(everySecond(49, 100, 0, "x"), malformed...), api.ErrMalformed},
	} {
		got, err := textedit.Compose(c.source, c.first, c.second)
		checkErrno(t, c.what, err, c.err)
		checkEdits(t, c.what, got, nil)
	}
	for _, c := range invalidEdits {
		got, err := textedit.Compose(c.source, c.edits, nil)
		checkErrno(t, c.what+" in first", err, c.err)
		checkEdits(t, c.what+" in first", got, nil)
		got, err = textedit.Compose(c.source, nil, c.edits)
		checkErrno(t, c.what+" in second", err, c.err)
		checkEdits(t, c.what+" in second", got, nil)
	}
}

// All bytes that occur are different, so that the strings show which bytes of
// the source are retained.
func TestComposeIsCanonical(t *testing.T) {
	const source = "abc"
	texts := []string{"", "x", "xx"}
	for _, first := range allEdits(len(source), texts) {
		first = recolored(first, 'A')
		intermediate := apply(t, source, first)
		for _, second := range allEdits(min(len(intermediate), 4), []string{"", "x"}) {
			second = recolored(second, '0')
			final := apply(t, intermediate, second)
			composed, err := textedit.Compose(source, first, second)
			if err != api.OK || apply(t, source, composed) != final {
				t.Fatalf("Compose(%v, %v) = %v, %d, want edits that yield %q", first, second, composed, err, final)
			}
			checkEdits(t, "Compose", composed, canonicalByValue(source, final))
		}
	}
}
