package anchor_test

import (
	"math"
	"slices"
	"strings"
	"testing"

	"glossator/anchor"
	"glossator/api"
	"glossator/textedit"
)

func edit(start, end int, text string) api.TextEdit {
	return api.TextEdit{Start: start, End: end, NewText: text}
}

func list(edits ...api.TextEdit) []api.TextEdit { return edits }

// insertions returns count edits that insert x at the offsets 0, 1, 2, ...
func insertions(count int) []api.TextEdit {
	var edits []api.TextEdit
	for offset := range count {
		edits = append(edits, edit(offset, offset, "x"))
	}
	return edits
}

// example has the edits of the chapter's examples.
func example() []api.TextEdit { return list(edit(2, 5, "x"), edit(7, 7, "yy")) }

// invalidEdits are the lists of edits that all functions reject.
var invalidEdits = []struct {
	what  string
	edits []api.TextEdit
	err   api.Errno
}{
	{"too many edits", insertions(api.MaxEdits + 1), api.ErrTooLarge},
	{"too many edits before malformed", make([]api.TextEdit, api.MaxEdits+1), api.ErrTooLarge},
	{"negative start", list(edit(-1, 0, "")), api.ErrMalformed},
	{"negative range", list(edit(-3, -2, "")), api.ErrMalformed},
	{"smallest start", list(edit(math.MinInt, 3, "")), api.ErrMalformed},
	{"smallest end", list(edit(0, math.MinInt, "")), api.ErrMalformed},
	{"smallest start and end", list(edit(math.MinInt, math.MinInt, "")), api.ErrMalformed},
	{"end before start", list(edit(3, 2, "")), api.ErrMalformed},
	{"end before start in the second edit", list(edit(1, 2, ""), edit(6, 5, "")), api.ErrMalformed},
	{"adjacent edits", list(edit(1, 2, ""), edit(2, 3, "")), api.ErrMalformed},
	{"adjacent insertion", list(edit(1, 2, ""), edit(2, 2, "x")), api.ErrMalformed},
	{"two insertions at an offset", list(edit(3, 3, "a"), edit(3, 3, "b")), api.ErrMalformed},
	{"two insertions at the start", list(edit(0, 0, "a"), edit(0, 0, "b")), api.ErrMalformed},
	{"overlapping edits", list(edit(1, 4, ""), edit(3, 5, "")), api.ErrMalformed},
	{"unsorted edits", list(edit(4, 5, ""), edit(1, 2, "")), api.ErrMalformed},
	{"last of three edits", list(edit(1, 2, ""), edit(4, 5, ""), edit(5, 6, "")), api.ErrMalformed},
	{"edit behind the largest end", list(edit(0, math.MaxInt, ""), edit(math.MaxInt, math.MaxInt, "")), api.ErrMalformed},
}

func TestMap(t *testing.T) {
	most := insertions(api.MaxEdits)
	for _, c := range []struct {
		what        string
		edits       []api.TextEdit
		offset      int
		left, right int
	}{
		{"example: start", example(), 0, 0, 0},
		{"example: before the first edit", example(), 1, 1, 1},
		{"example: start of a deleted range", example(), 2, 2, 2},
		{"example: inside a deleted range", example(), 3, 2, 3},
		{"example: last byte of a deleted range", example(), 4, 2, 3},
		{"example: end of a deleted range", example(), 5, 3, 3},
		{"example: between the edits", example(), 6, 4, 4},
		{"example: at an insertion", example(), 7, 5, 7},
		{"example: behind an insertion", example(), 8, 8, 8},
		{"example: far behind all edits", example(), 1000, 1000, 1000},
		{"nil edits", nil, 7, 7, 7},
		{"empty edits", []api.TextEdit{}, 7, 7, 7},
		{"nil edits, start", nil, 0, 0, 0},
		{"insertion at the start", list(edit(0, 0, "abc")), 0, 0, 3},
		{"deletion at the start", list(edit(0, 3, "")), 0, 0, 0},
		{"inside a deletion", list(edit(1, 3, "")), 2, 1, 1},
		{"end of a deletion", list(edit(1, 3, "")), 3, 1, 1},
		{"start of a replacement", list(edit(1, 3, "abcdef")), 1, 1, 1},
		{"inside a replacement that grows", list(edit(1, 3, "abcdef")), 2, 1, 7},
		{"end of a replacement that grows", list(edit(1, 3, "abcdef")), 3, 7, 7},
		{"replacement of the same length", list(edit(1, 3, "ab")), 2, 1, 3},
		{"replacement of one byte has no inside", list(edit(1, 2, "ab")), 1, 1, 1},
		{"edit without effect at the offset", list(edit(3, 3, "")), 3, 3, 3},
		{"edit behind the offset", list(edit(4, 9, "x")), 3, 3, 3},
		{"insertion behind the offset", list(edit(4, 4, "x")), 3, 3, 3},
		{"inside the second deleted range", list(edit(0, 0, "abc"), edit(2, 5, "xy"), edit(6, 9, "")), 4, 5, 7},
		{"insertion behind an edit", list(edit(0, 3, ""), edit(4, 4, "ab"), edit(5, 5, "c")), 4, 1, 3},
		{"new text is counted in bytes", list(edit(0, 0, "\xff\x00\xc3\xa4")), 1, 5, 5},
		{"most edits", most, api.MaxEdits - 1, 2*api.MaxEdits - 2, 2*api.MaxEdits - 1},
		{"behind most edits", most, api.MaxEdits, 2 * api.MaxEdits, 2 * api.MaxEdits},
		{"largest offset", nil, math.MaxInt, math.MaxInt, math.MaxInt},
		{"largest offset behind a deletion", list(edit(0, 9, "")), math.MaxInt, math.MaxInt - 9, math.MaxInt - 9},
		{"end of the largest deletion", list(edit(0, math.MaxInt, "ab")), math.MaxInt, 2, 2},
		{"inside the largest deletion", list(edit(0, math.MaxInt, "ab")), math.MaxInt - 1, 0, 2},
		{"insertion at the largest offset", list(edit(0, 9, ""), edit(math.MaxInt, math.MaxInt, "ab")), math.MaxInt, math.MaxInt - 9, math.MaxInt - 7},
	} {
		left, err := anchor.Map(c.edits, c.offset, false)
		if left != c.left || err != api.OK {
			t.Errorf("%s: left gravity: got %d, error %d, want %d", c.what, left, err, c.left)
		}
		right, err := anchor.Map(c.edits, c.offset, true)
		if right != c.right || err != api.OK {
			t.Errorf("%s: right gravity: got %d, error %d, want %d", c.what, right, err, c.right)
		}
	}
}

func checkMapFails(t *testing.T, what string, edits []api.TextEdit, offset int, want api.Errno) {
	t.Helper()
	for _, right := range []bool{false, true} {
		position, err := anchor.Map(edits, offset, right)
		if position != 0 || err != want {
			t.Errorf("%s: Map of %d, %t: got %d, error %d, want error %d", what, offset, right, position, err, want)
		}
	}
}

func TestMapErrors(t *testing.T) {
	for _, offset := range []int{-1, -1000, math.MinInt} {
		checkMapFails(t, "nil edits", nil, offset, api.ErrInvalid)
		checkMapFails(t, "example", example(), offset, api.ErrInvalid)
		checkMapFails(t, "insertion at the start", list(edit(0, 0, "x")), offset, api.ErrInvalid)
	}
	for _, c := range invalidEdits {
		checkMapFails(t, c.what, c.edits, 3, c.err)
		checkMapFails(t, c.what+" before the offset", c.edits, -1, c.err)
	}
}

func TestMapRange(t *testing.T) {
	for _, c := range []struct {
		what             string
		edits            []api.TextEdit
		start, end       int
		expanded, shrunk [2]int
	}{
		{"example", example(), 7, 9, [2]int{5, 9}, [2]int{7, 9}},
		{"the deleted range", example(), 2, 5, [2]int{2, 3}, [2]int{2, 3}},
		{"inside the deleted range", example(), 3, 4, [2]int{2, 3}, [2]int{3, 3}},
		{"empty, inside the deleted range", example(), 4, 4, [2]int{2, 3}, [2]int{3, 3}},
		{"empty, at an insertion", example(), 7, 7, [2]int{5, 7}, [2]int{7, 7}},
		{"empty, at the start", example(), 0, 0, [2]int{0, 0}, [2]int{0, 0}},
		{"up to an insertion", example(), 6, 7, [2]int{4, 7}, [2]int{4, 5}},
		{"around an insertion", example(), 6, 8, [2]int{4, 8}, [2]int{4, 8}},
		{"into the deleted range", example(), 1, 3, [2]int{1, 3}, [2]int{1, 2}},
		{"out of the deleted range", example(), 3, 6, [2]int{2, 4}, [2]int{3, 4}},
		{"everything", example(), 0, 1000, [2]int{0, 1000}, [2]int{0, 1000}},
		{"nil edits", nil, 3, 8, [2]int{3, 8}, [2]int{3, 8}},
		{"nil edits, empty", []api.TextEdit{}, 3, 3, [2]int{3, 3}, [2]int{3, 3}},
		{"insertions at both ends", list(edit(2, 2, "a"), edit(4, 4, "bc")), 2, 4, [2]int{2, 7}, [2]int{3, 5}},
		{"deletion of the range", list(edit(2, 4, "")), 2, 4, [2]int{2, 2}, [2]int{2, 2}},
		{"deletion of more than the range", list(edit(0, 9, "")), 2, 4, [2]int{0, 0}, [2]int{0, 0}},
		{"largest range", list(edit(0, 9, "")), 0, math.MaxInt, [2]int{0, math.MaxInt - 9}, [2]int{0, math.MaxInt - 9}},
	} {
		for _, expand := range []bool{true, false} {
			want := c.shrunk
			if expand {
				want = c.expanded
			}
			start, end, err := anchor.MapRange(c.edits, c.start, c.end, expand)
			if start != want[0] || end != want[1] || err != api.OK {
				t.Errorf("%s, expand %t: got %d, %d, error %d, want %v", c.what, expand, start, end, err, want)
			}
		}
	}
}

func checkMapRangeFails(t *testing.T, what string, edits []api.TextEdit, start, end int, want api.Errno) {
	t.Helper()
	for _, expand := range []bool{false, true} {
		mappedStart, mappedEnd, err := anchor.MapRange(edits, start, end, expand)
		if mappedStart != 0 || mappedEnd != 0 || err != want {
			t.Errorf("%s: MapRange of %d, %d, %t: got %d, %d, error %d, want error %d",
				what, start, end, expand, mappedStart, mappedEnd, err, want)
		}
	}
}

func TestMapRangeErrors(t *testing.T) {
	for _, r := range [][2]int{{-1, 2}, {-1, -1}, {4, 3}, {0, -1}, {math.MinInt, 2}, {3, math.MinInt}, {math.MaxInt, math.MaxInt - 1}} {
		checkMapRangeFails(t, "nil edits", nil, r[0], r[1], api.ErrInvalid)
		checkMapRangeFails(t, "example", example(), r[0], r[1], api.ErrInvalid)
	}
	for _, c := range invalidEdits {
		checkMapRangeFails(t, c.what, c.edits, 2, 4, c.err)
		checkMapRangeFails(t, c.what+" before the start", c.edits, -1, 4, c.err)
		checkMapRangeFails(t, c.what+" before the end", c.edits, 4, 3, c.err)
	}
}

func TestMapAll(t *testing.T) {
	for _, c := range []struct {
		what                 string
		edits                []api.TextEdit
		offsets, left, right []int
	}{
		{"example", example(), []int{0, 6, 8}, []int{0, 4, 8}, []int{0, 4, 8}},
		{"gravity", example(), []int{3, 7}, []int{2, 5}, []int{3, 7}},
		{"unsorted and repeated offsets", example(), []int{7, 3, 7, 0, 3}, []int{5, 2, 5, 0, 2}, []int{7, 3, 7, 0, 3}},
		{"nil offsets", example(), nil, nil, nil},
		{"empty offsets", example(), []int{}, nil, nil},
		{"nil edits", nil, []int{5, 0, math.MaxInt}, []int{5, 0, math.MaxInt}, []int{5, 0, math.MaxInt}},
		{"nil edits and offsets", nil, nil, nil, nil},
	} {
		left, err := anchor.MapAll(c.edits, c.offsets, false)
		if !slices.Equal(left, c.left) || err != api.OK {
			t.Errorf("%s: left gravity: got %v, error %d, want %v", c.what, left, err, c.left)
		}
		right, err := anchor.MapAll(c.edits, c.offsets, true)
		if !slices.Equal(right, c.right) || err != api.OK {
			t.Errorf("%s: right gravity: got %v, error %d, want %v", c.what, right, err, c.right)
		}
	}
}

func checkMapAllFails(t *testing.T, what string, edits []api.TextEdit, offsets []int, want api.Errno) {
	t.Helper()
	for _, right := range []bool{false, true} {
		positions, err := anchor.MapAll(edits, offsets, right)
		if len(positions) != 0 || err != want {
			t.Errorf("%s: MapAll of %v, %t: got %v, error %d, want error %d", what, offsets, right, positions, err, want)
		}
	}
}

func TestMapAllErrors(t *testing.T) {
	for _, offsets := range [][]int{{-1}, {3, -1}, {-1, 3}, {0, -5, 8}, {0, 1, math.MinInt}} {
		checkMapAllFails(t, "nil edits", nil, offsets, api.ErrInvalid)
		checkMapAllFails(t, "example", example(), offsets, api.ErrInvalid)
	}
	for _, c := range invalidEdits {
		checkMapAllFails(t, c.what, c.edits, []int{0, 3}, c.err)
		checkMapAllFails(t, c.what+" without offsets", c.edits, nil, c.err)
		checkMapAllFails(t, c.what+" before the offsets", c.edits, []int{0, -1}, c.err)
	}
}

// editsFrom returns all valid lists of edits that start at min or behind it,
// in a source of the given length. Their texts consist of signs.
func editsFrom(min, length int) [][]api.TextEdit {
	lists := [][]api.TextEdit{nil}
	for start := min; start <= length; start++ {
		for end := start; end <= length; end++ {
			for _, rest := range editsFrom(end+1, length) {
				for _, text := range []string{"", "+", "+-*"} {
					lists = append(lists, append(list(edit(start, end, text)), rest...))
				}
			}
		}
	}
	return lists
}

func applied(t *testing.T, source string, edits []api.TextEdit) string {
	t.Helper()
	result, err := textedit.Apply(source, edits)
	if err != api.OK {
		t.Fatalf("Apply(%q, %v): error %d", source, edits, err)
	}
	return result
}

// expectedOffset derives the position of an offset from the text around it: it
// stays beside the retained byte on the side of its gravity. Where that byte
// does not exist, an edit ends or starts there, and the position is the start
// or the end of its new text.
func expectedOffset(t *testing.T, source string, edits []api.TextEdit, offset int, right bool) int {
	t.Helper()
	result := applied(t, source, edits)
	if right && offset < len(source) {
		if i := strings.IndexByte(result, source[offset]); i >= 0 {
			return i
		}
	}
	if !right && offset > 0 {
		if i := strings.IndexByte(result, source[offset-1]); i >= 0 {
			return i + 1
		}
	}
	for i, e := range edits {
		start := len(applied(t, source[:e.Start], edits[:i]))
		switch end := start + len(e.NewText); {
		case e.Start < offset && offset < e.End && !right, e.Start == offset && offset < e.End:
			return start
		case e.Start < offset && offset <= e.End:
			return end
		case e.Start == offset && e.End == offset:
			if right {
				return end
			}
			return start
		}
	}
	// Only the start of the source has no byte before it, and only its end
	// has none behind it.
	if offset == 0 {
		return 0
	}
	return len(result)
}

// All bytes of the source are different and occur in no new text.
func TestOffsetsStayBesideRetainedBytes(t *testing.T) {
	const source = "abcd"
	for _, edits := range editsFrom(0, len(source)) {
		for offset := range len(source) + 1 {
			for _, right := range []bool{false, true} {
				want := expectedOffset(t, source, edits, offset, right)
				if got, err := anchor.Map(edits, offset, right); got != want || err != api.OK {
					t.Fatalf("Map(%v, %d, %t) = %d, error %d, want %d", edits, offset, right, got, err, want)
				}
			}
		}
	}
}

// checkRange compares MapRange with Map at both ends of a range.
func checkRange(t *testing.T, edits []api.TextEdit, start, end int, expand bool) {
	t.Helper()
	wantStart, _ := anchor.Map(edits, start, !expand)
	wantEnd, _ := anchor.Map(edits, end, expand)
	if wantEnd < wantStart {
		wantEnd = wantStart
	}
	gotStart, gotEnd, err := anchor.MapRange(edits, start, end, expand)
	if gotStart != wantStart || gotEnd != wantEnd || err != api.OK {
		t.Fatalf("MapRange(%v, %d, %d, %t) = %d, %d, error %d, want %d, %d",
			edits, start, end, expand, gotStart, gotEnd, err, wantStart, wantEnd)
	}
}

func TestRangesAndListsAgreeWithMap(t *testing.T) {
	const length = 4
	for _, edits := range editsFrom(0, length) {
		var offsets, left, right []int
		for offset := length + 1; offset >= 0; offset-- {
			offsets = append(offsets, offset)
			l, _ := anchor.Map(edits, offset, false)
			r, _ := anchor.Map(edits, offset, true)
			left, right = append(left, l), append(right, r)
			for end := offset; end <= length+1; end++ {
				checkRange(t, edits, offset, end, false)
				checkRange(t, edits, offset, end, true)
			}
		}
		gotLeft, leftErr := anchor.MapAll(edits, offsets, false)
		gotRight, rightErr := anchor.MapAll(edits, offsets, true)
		if !slices.Equal(gotLeft, left) || !slices.Equal(gotRight, right) || leftErr != api.OK || rightErr != api.OK {
			t.Fatalf("MapAll(%v, %v) = %v, %v, errors %d, %d, want %v, %v",
				edits, offsets, gotLeft, gotRight, leftErr, rightErr, left, right)
		}
	}
}

// Results share no memory with arguments or with later results.
func TestArgumentsAndResultsAreIndependent(t *testing.T) {
	for _, edits := range [][]api.TextEdit{nil, example()} {
		offsets := []int{8, 3, 7}
		want, _ := anchor.MapAll(edits, offsets, true)
		want = slices.Clone(want)
		anchor.Map(edits, 3, true)
		anchor.MapRange(edits, 3, 7, false)
		result, _ := anchor.MapAll(edits, offsets, true)
		clear(result)
		if !slices.Equal(offsets, []int{8, 3, 7}) {
			t.Errorf("offsets were modified: %v", offsets)
		}
		if edits != nil && !slices.Equal(edits, example()) {
			t.Errorf("edits were modified: %v", edits)
		}
		if again, _ := anchor.MapAll(edits, offsets, true); !slices.Equal(again, want) {
			t.Errorf("MapAll after its result was modified: %v, want %v", again, want)
		}
	}
}
