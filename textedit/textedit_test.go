package textedit_test

import (
	"math"
	"strings"
	"testing"

	"glossator/api"
	"glossator/textedit"
)

// invalidEdits are calls that Validate and all functions that apply a list of
// edits reject, with the error that comes first.
var invalidEdits = []struct {
	what   string
	source string
	edits  []api.TextEdit
	err    api.Errno
}{
	{"long source", blank(api.MaxSource + 1), nil, api.ErrTooLarge},
	{"long source before malformed", blank(api.MaxSource + 1), list(edit(-1, 0, "")), api.ErrTooLarge},
	{"long source that the edits shorten", blank(api.MaxSource + 1), list(edit(0, 2, "")), api.ErrTooLarge},
	{"too many edits", blank(200), everySecond(api.MaxEdits+1, 0, 1, ""), api.ErrTooLarge},
	{"too many edits before malformed", "abc", make([]api.TextEdit, api.MaxEdits+1), api.ErrTooLarge},
	{"negative start", "abcdef", list(edit(-1, 0, "")), api.ErrMalformed},
	{"negative range", "abcdef", list(edit(-3, -2, "")), api.ErrMalformed},
	{"smallest start", "abcdef", list(edit(math.MinInt, 3, "")), api.ErrMalformed},
	{"smallest end", "abcdef", list(edit(0, math.MinInt, "")), api.ErrMalformed},
	{"largest end", "abcdef", list(edit(0, math.MaxInt, "")), api.ErrMalformed},
	{"largest start and end", "abcdef", list(edit(math.MaxInt, math.MaxInt, "")), api.ErrMalformed},
	{"end before start", "abcdef", list(edit(2, 1, "")), api.ErrMalformed},
	{"end behind source", "abcdef", list(edit(0, 7, "")), api.ErrMalformed},
	{"start behind source", "abcdef", list(edit(7, 7, "")), api.ErrMalformed},
	{"start behind empty source", "", list(edit(1, 1, "")), api.ErrMalformed},
	{"adjacent edits", "abcdef", list(edit(1, 2, ""), edit(2, 3, "")), api.ErrMalformed},
	{"adjacent insertion", "abcdef", list(edit(1, 2, ""), edit(2, 2, "x")), api.ErrMalformed},
	{"two insertions at an offset", "abcdef", list(edit(3, 3, "a"), edit(3, 3, "b")), api.ErrMalformed},
	{"overlapping edits", "abcdef", list(edit(1, 4, ""), edit(3, 5, "")), api.ErrMalformed},
	{"unsorted edits", "abcdef", list(edit(4, 5, ""), edit(1, 2, "")), api.ErrMalformed},
	{"malformed second edit", "abcdef", list(edit(1, 2, ""), edit(4, 3, "")), api.ErrMalformed},
	{"malformed last edit", "abcdef", list(edit(0, 0, ""), edit(2, 2, ""), edit(4, 7, "")), api.ErrMalformed},
	{"malformed before long result", "abcdef", list(edit(0, 0, blank(api.MaxSource)), edit(0, 0, "")), api.ErrMalformed},
	{"long result", "abcdef", list(edit(0, 6, blank(api.MaxSource+1))), api.ErrTooLarge},
	{"long result of two edits", "abcdef", list(edit(0, 1, blank(1000)), edit(3, 3, blank(996))), api.ErrTooLarge},
	{"longest source and one byte", blank(api.MaxSource), list(edit(7, 7, "x")), api.ErrTooLarge},
}

// validEdits are calls that Validate accepts, with the result of Apply.
var validEdits = []struct {
	what   string
	source string
	edits  []api.TextEdit
	result string
}{
	{"example", "abcdef", list(edit(1, 2, "xy"), edit(4, 4, "z")), "axycdzef"},
	{"nil", "abcdef", nil, "abcdef"},
	{"empty", "abcdef", []api.TextEdit{}, "abcdef"},
	{"empty source", "", nil, ""},
	{"into empty source", "", list(edit(0, 0, "new")), "new"},
	{"at both ends", "abcdef", list(edit(0, 0, "<"), edit(6, 6, ">")), "<abcdef>"},
	{"everything", "abcdef", list(edit(0, 6, "")), ""},
	{"nothing", "abcdef", list(edit(3, 3, "")), "abcdef"},
	{"one byte apart", "abcdef", list(edit(1, 2, ""), edit(3, 4, "")), "acef"},
	{"insertions one byte apart", "ab", list(edit(0, 0, "1"), edit(1, 1, "2"), edit(2, 2, "3")), "1a2b3"},
	{"arbitrary bytes", "\x00\xff\xc3\xa4\n", list(edit(1, 3, "\xfe\x00")), "\x00\xfe\x00\xa4\n"},
	{"longest source", blank(api.MaxSource), nil, blank(api.MaxSource)},
	{"longest result", "abcdef", list(edit(6, 6, blank(api.MaxSource-6))), "abcdef" + blank(api.MaxSource-6)},
	{"growing before shrinking", blank(api.MaxSource), list(edit(0, 0, "xy"), edit(8, 10, "")), "xy" + blank(api.MaxSource-2)},
	{"most edits", strings.Repeat("ab", api.MaxEdits), everySecond(api.MaxEdits, 0, 1, "x"), strings.Repeat("xb", api.MaxEdits)},
}

func TestValidate(t *testing.T) {
	for _, c := range invalidEdits {
		checkErrno(t, c.what, textedit.Validate(c.source, c.edits), c.err)
	}
	for _, c := range validEdits {
		checkErrno(t, c.what, textedit.Validate(c.source, c.edits), api.OK)
	}
}

// A list is valid if and only if every part of the definition holds. All lists
// of two edits with offsets in and around a short source are tried.
func TestValidateAllPairs(t *testing.T) {
	const length = 3
	inRange := func(e api.TextEdit) bool { return 0 <= e.Start && e.Start <= e.End && e.End <= length }
	for code := range 6 * 6 * 6 * 6 {
		first := edit(code%6-1, code/6%6-1, "x")
		second := edit(code/36%6-1, code/216-1, "y")
		want := api.ErrMalformed
		if inRange(first) && inRange(second) && first.End < second.Start {
			want = api.OK
		}
		edits := list(first, second)
		if got := textedit.Validate("abc", edits); got != want {
			t.Errorf("Validate(%v): error %d, want %d", edits, got, want)
		}
	}
}

func TestApply(t *testing.T) {
	for _, c := range invalidEdits {
		result, err := textedit.Apply(c.source, c.edits)
		checkErrno(t, c.what, err, c.err)
		if result != "" {
			t.Errorf("%s: result %q with an error", c.what, result)
		}
	}
	for _, c := range validEdits {
		if got := apply(t, c.source, c.edits); got != c.result {
			t.Errorf("%s: got %q, want %q", c.what, got, c.result)
		}
	}
}

func TestInvert(t *testing.T) {
	for _, c := range []struct {
		what        string
		source      string
		edits, want []api.TextEdit
	}{
		{"example", "abcdef", list(edit(1, 2, "xy"), edit(4, 4, "z")), list(edit(1, 3, "b"), edit(5, 6, ""))},
		{"nil", "abcdef", nil, nil},
		{"empty", "abcdef", []api.TextEdit{}, nil},
		{"everything", "abcdef", list(edit(0, 6, "")), list(edit(0, 0, "abcdef"))},
		{"an edit without effect", "abcdef", list(edit(3, 3, "")), list(edit(3, 3, ""))},
		{"the same text again", "abcdef", list(edit(1, 3, "bc")), list(edit(1, 3, "bc"))},
		{"shrinking, then growing", "abcdef", list(edit(0, 2, ""), edit(3, 4, "xyz"), edit(6, 6, "!")),
			list(edit(0, 0, "ab"), edit(1, 4, "d"), edit(6, 7, ""))},
		{"arbitrary bytes", "\x00\xff\xc3", list(edit(1, 2, "\xfe")), list(edit(1, 2, "\xff"))},
	} {
		got, err := textedit.Invert(c.source, c.edits)
		checkErrno(t, c.what, err, api.OK)
		checkEdits(t, c.what, got, c.want)
	}
	for _, c := range invalidEdits {
		got, err := textedit.Invert(c.source, c.edits)
		checkErrno(t, c.what, err, c.err)
		checkEdits(t, c.what, got, nil)
	}
}

func TestInvertRestoresSource(t *testing.T) {
	check := func(source string, edits []api.TextEdit) {
		inverse, err := textedit.Invert(source, edits)
		if err != api.OK || len(inverse) != len(edits) {
			t.Fatalf("Invert(%q, %#v) = %#v, %d", source, edits, inverse, err)
		}
		if got := apply(t, apply(t, source, edits), inverse); got != source {
			t.Errorf("Invert(%q, %#v) = %#v restores %q", source, edits, inverse, got)
		}
	}
	for _, c := range validEdits {
		check(c.source, c.edits)
	}
	for _, edits := range allEdits(4, []string{"", "x", "xyz"}) {
		check("abcd", edits)
	}
}

// Results share no memory with arguments or with later results.
func TestArgumentsAndResultsAreIndependent(t *testing.T) {
	edits := list(edit(1, 2, "xy"), edit(4, 4, "z"))
	other := list(edit(0, 1, ""), edit(3, 4, "w"))
	calls := map[string]func() []api.TextEdit{
		"Invert":  func() []api.TextEdit { r, _ := textedit.Invert("abcdef", edits); return r },
		"Compose": func() []api.TextEdit { r, _ := textedit.Compose("abcdef", edits, other); return r },
		"Transform, left": func() []api.TextEdit {
			r, _, _ := textedit.Transform("abcdef", edits, other)
			return r
		},
		"Transform, right": func() []api.TextEdit {
			_, r, _ := textedit.Transform("abcdef", edits, other)
			return r
		},
	}
	checkUnchanged(t, "Validate", edits, func() { textedit.Validate("abcdef", edits) })
	checkUnchanged(t, "Apply", edits, func() { textedit.Apply("abcdef", edits) })
	for what, call := range calls {
		want := call()
		checkUnchanged(t, what, edits, func() {
			checkUnchanged(t, what, other, func() { clear(call()) })
		})
		checkEdits(t, what+" after its result was modified", call(), want)
	}
}
