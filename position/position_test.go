package position_test

import (
	"math"
	"slices"
	"strings"
	"testing"
	"unicode/utf16"

	"glossator/api"
	"glossator/position"
)

// counting is one of the two ways to count columns.
type counting struct {
	name     string
	position func(string, int) (api.Position, api.Errno)
	offset   func(string, api.Position) (int, api.Errno)
	width    func(rune) int
}

func inCodeUnits() counting {
	return counting{"UTF16", position.UTF16Position, position.UTF16Offset, utf16.RuneLen}
}

func inCodePoints() counting {
	return counting{"Rune", position.RunePosition, position.RuneOffset, func(rune) int { return 1 }}
}

func countings() []counting { return []counting{inCodeUnits(), inCodePoints()} }

func at(line, column int) api.Position { return api.Position{Line: line, Column: column} }

func (c counting) checkPosition(t *testing.T, src string, offset int, want api.Position, wantErr api.Errno) {
	t.Helper()
	if got, err := c.position(src, offset); got != want || err != wantErr {
		t.Errorf("%sPosition(%q, %d) = %v, error %d, want %v, error %d", c.name, src, offset, got, err, want, wantErr)
	}
}

func (c counting) checkOffset(t *testing.T, src string, pos api.Position, want int, wantErr api.Errno) {
	t.Helper()
	if got, err := c.offset(src, pos); got != want || err != wantErr {
		t.Errorf("%sOffset(%q, %v) = %d, error %d, want %d, error %d", c.name, src, pos, got, err, want, wantErr)
	}
}

const example = "a\n\U0001F600b"

func TestLineStarts(t *testing.T) {
	for _, c := range []struct {
		src  string
		want []int
	}{
		{"", []int{0}},
		{"a", []int{0}},
		{"\n", []int{0, 1}},
		{"a\n", []int{0, 2}},
		{"a\n\nb", []int{0, 2, 3}},
		{"\n\n\n", []int{0, 1, 2, 3}},
		{example, []int{0, 2}},
		{"a\r\nb\rc", []int{0, 3}},
		{"a\vb\fc\u0085d\u2028e\u2029f", []int{0}},
		{"\xff\n\xf0\x9f\n\x98\x80\n", []int{0, 2, 5, 8}},
		{"\x00\n\x8a\n\u010a", []int{0, 2, 4}},
	} {
		if got := position.LineStarts(c.src); !slices.Equal(got, c.want) {
			t.Errorf("LineStarts(%q) = %v, want %v", c.src, got, c.want)
		}
	}
}

func TestLineStartsAreNewMemory(t *testing.T) {
	clear(position.LineStarts("a\nb"))
	if got := position.LineStarts("a\nb"); !slices.Equal(got, []int{0, 2}) {
		t.Errorf("LineStarts after its result was modified: %v", got)
	}
}

// Every offset and position here is converted in both directions.
func TestConversions(t *testing.T) {
	for _, c := range []struct {
		what   string
		src    string
		offset int
		line   int
		utf16  int
		rune   int
	}{
		{"example", example, 6, 1, 2, 1},
		{"start of the example", example, 0, 0, 0, 0},
		{"line feed of the example", example, 1, 0, 1, 1},
		{"start of a line", example, 2, 1, 0, 0},
		{"end of the example", example, 7, 1, 3, 2},
		{"empty source", "", 0, 0, 0, 0},
		{"empty first line", "\n", 0, 0, 0, 0},
		{"empty last line", "\n", 1, 1, 0, 0},
		{"empty line between two lines", "ab\n\ncd", 3, 1, 0, 0},
		{"line behind an empty line", "ab\n\ncd", 5, 2, 1, 1},
		{"carriage return", "a\r\nb", 2, 0, 2, 2},
		{"behind a carriage return", "a\rb", 3, 0, 3, 3},
		{"other line separators", "\v\f\u0085\u2028\u2029b", 10, 0, 5, 5},
		{"tab and zero byte", "\t\x00b", 2, 0, 2, 2},
		{"byte order mark", "\ufeffa", 4, 0, 2, 2},
		{"combining character", "e\u0301a", 3, 0, 2, 2},
		{"two bytes", "\u0080\u07ffa", 4, 0, 2, 2},
		{"three bytes", "\u0800\uffffa", 6, 0, 2, 2},
		{"four bytes", "\U00010000\U0010ffffa", 8, 0, 4, 2},
		{"around the surrogates", "\ud7ff\ue000a", 6, 0, 2, 2},
		{"encoded replacement character", "\ufffda", 3, 0, 1, 1},
		{"invalid byte", "\xffa", 1, 0, 1, 1},
		{"continuation bytes", "\x80\xbfa", 2, 0, 2, 2},
		{"second byte of an overlong encoding", "\xc0\x80a", 1, 0, 1, 1},
		{"overlong encodings", "\xc0\x80\xc1\xbf\xe0\x9f\xbf\xf0\x8f\xbf\xbfa", 11, 0, 11, 11},
		{"inside an encoded surrogate", "\xed\xa0\x80a", 1, 0, 1, 1},
		{"encoded surrogate pair", "\xed\xa0\xbd\xed\xb8\x80a", 6, 0, 6, 6},
		{"encoding above U+10FFFF", "\xf4\x90\x80\x80\xf5\x80\x80\x80a", 8, 0, 8, 8},
		{"inside a truncated encoding", "\xf0\x9f\x98a", 2, 0, 2, 2},
		{"behind a truncated encoding", "\xf0\x9f\x98a", 4, 0, 4, 4},
		{"truncated encoding at the end", "\xe2\x82", 2, 0, 2, 2},
		{"truncated encoding before a valid one", "\xf0\x9f\xc3\xa9a", 4, 0, 3, 3},
		{"encoding that a line feed interrupts", "\xf0\x9f\n\x98\x80a", 1, 0, 1, 1},
		{"line feed that interrupts an encoding", "\xf0\x9f\n\x98\x80a", 2, 0, 2, 2},
		{"behind a line feed that interrupts an encoding", "\xf0\x9f\n\x98\x80a", 5, 1, 2, 2},
	} {
		for _, direction := range []struct {
			counting
			pos api.Position
		}{{inCodeUnits(), at(c.line, c.utf16)}, {inCodePoints(), at(c.line, c.rune)}} {
			t.Run(direction.name+" "+c.what, func(t *testing.T) {
				direction.checkPosition(t, c.src, c.offset, direction.pos, api.OK)
				direction.checkOffset(t, c.src, direction.pos, c.offset, api.OK)
			})
		}
	}
}

func TestPositionErrors(t *testing.T) {
	for _, c := range []struct {
		src    string
		offset int
		want   api.Errno
	}{
		{"", -1, api.ErrInvalid},
		{"", 1, api.ErrInvalid},
		{"", math.MinInt, api.ErrInvalid},
		{"", math.MaxInt, api.ErrInvalid},
		{example, -1, api.ErrInvalid},
		{example, 8, api.ErrInvalid},
		{"\n", 2, api.ErrInvalid},
		{"\U0001F600", 5, api.ErrInvalid},
		{example, 3, api.ErrMalformed},
		{example, 4, api.ErrMalformed},
		{example, 5, api.ErrMalformed},
		{"é", 1, api.ErrMalformed},
		{"\ufffda", 1, api.ErrMalformed},
		{"\ufffda", 2, api.ErrMalformed},
		{"\xf0\xc3\xa9", 2, api.ErrMalformed},
		{"\x80\u20ac\n", 3, api.ErrMalformed},
	} {
		for _, counted := range countings() {
			counted.checkPosition(t, c.src, c.offset, api.Position{}, c.want)
		}
	}
}

func TestOffsetErrors(t *testing.T) {
	for _, c := range []struct {
		src  string
		pos  api.Position
		want api.Errno
	}{
		{"", at(-1, 0), api.ErrNotFound},
		{"", at(1, 0), api.ErrNotFound},
		{"a\nb", at(2, 0), api.ErrNotFound},
		{"a\n", at(2, 0), api.ErrNotFound},
		{"a\rb", at(1, 0), api.ErrNotFound},
		{example, at(math.MinInt, 0), api.ErrNotFound},
		{example, at(math.MaxInt, 0), api.ErrNotFound},
		{example, at(-1, -1), api.ErrNotFound},
		{example, at(2, 99), api.ErrNotFound},
		{"", at(0, -1), api.ErrInvalid},
		{"", at(0, 1), api.ErrInvalid},
		{"a\nb", at(0, 2), api.ErrInvalid},
		{"a\nb", at(1, 2), api.ErrInvalid},
		{"a\n", at(1, 1), api.ErrInvalid},
		{"\n\n", at(1, 1), api.ErrInvalid},
		{example, at(1, -1), api.ErrInvalid},
		{example, at(1, 4), api.ErrInvalid},
		{example, at(0, math.MinInt), api.ErrInvalid},
		{example, at(1, math.MaxInt), api.ErrInvalid},
	} {
		for _, counted := range countings() {
			counted.checkOffset(t, c.src, c.pos, 0, c.want)
		}
	}
}

// The columns between two code units exist only where code units are counted.
func TestOffsetBetweenCodeUnits(t *testing.T) {
	const faces = "\U0001F600\U0001F601\n\U00010000"
	for _, pos := range []api.Position{at(0, 1), at(0, 3), at(1, 1)} {
		inCodeUnits().checkOffset(t, faces, pos, 0, api.ErrMalformed)
	}
	inCodeUnits().checkOffset(t, faces, at(0, 2), 4, api.OK)
	inCodeUnits().checkOffset(t, faces, at(0, 5), 0, api.ErrInvalid)
	inCodeUnits().checkOffset(t, faces, at(1, 3), 0, api.ErrInvalid)
	inCodePoints().checkOffset(t, faces, at(0, 1), 4, api.OK)
	inCodePoints().checkOffset(t, faces, at(1, 1), 13, api.OK)
	inCodePoints().checkOffset(t, faces, at(0, 3), 0, api.ErrInvalid)
}

// expected lists the positions of src that exist, and the positions between
// the code units of a code point.
func expected(src string, width func(rune) int) (map[api.Position]int, map[api.Position]bool) {
	offsets, between := map[api.Position]int{}, map[api.Position]bool{}
	start := 0
	for line, text := range strings.Split(src, "\n") {
		column := 0
		for i, r := range text {
			offsets[at(line, column)] = start + i
			for unit := 1; unit < width(r); unit++ {
				between[at(line, column+unit)] = true
			}
			column += width(r)
		}
		offsets[at(line, column)] = start + len(text)
		start += len(text) + 1
	}
	return offsets, between
}

// checkSource checks every offset and every position in and around src.
func (c counting) checkSource(t *testing.T, src string) {
	t.Helper()
	offsets, between := expected(src, c.width)
	positions := map[int]api.Position{}
	for pos, offset := range offsets {
		positions[offset] = pos
	}
	for offset := range len(src) + 1 {
		if pos, ok := positions[offset]; ok {
			c.checkPosition(t, src, offset, pos, api.OK)
		} else {
			c.checkPosition(t, src, offset, api.Position{}, api.ErrMalformed)
		}
	}
	lines := strings.Count(src, "\n") + 1
	for line := -1; line <= lines; line++ {
		for column := -1; column <= len(src)+1; column++ {
			pos := at(line, column)
			offset, exists := offsets[pos]
			switch {
			case exists:
				c.checkOffset(t, src, pos, offset, api.OK)
			case line < 0 || line == lines:
				c.checkOffset(t, src, pos, 0, api.ErrNotFound)
			case between[pos]:
				c.checkOffset(t, src, pos, 0, api.ErrMalformed)
			default:
				c.checkOffset(t, src, pos, 0, api.ErrInvalid)
			}
		}
	}
}

// The sources consist of all short sequences of valid encodings of each
// length, of their parts, and of line feeds.
func TestAllShortSources(t *testing.T) {
	parts := []string{"a", "\n", "é", "\u20ac", "\ufffd", "\U0001F600", "\xc3", "\xe2", "\xf0", "\x9f", "\x98", "\x80"}
	sources := []string{""}
	for range 4 {
		longer := []string{""}
		for _, src := range sources {
			for _, part := range parts {
				longer = append(longer, src+part)
			}
		}
		sources = longer
	}
	for _, src := range sources {
		for _, counted := range countings() {
			counted.checkSource(t, src)
		}
		if t.Failed() {
			return
		}
	}
}

func TestLongestSource(t *testing.T) {
	const line = "\U0001F600é\n"
	last := api.MaxSource / len(line)
	start := last * len(line)
	src := strings.Repeat(line, last) + strings.Repeat("a", api.MaxSource-start)
	if got := position.LineStarts(src); len(got) != last+1 || got[last] != start {
		t.Errorf("LineStarts of the longest source: %v", got)
	}
	for _, counted := range countings() {
		end := at(last, api.MaxSource-start)
		counted.checkPosition(t, src, api.MaxSource, end, api.OK)
		counted.checkOffset(t, src, end, api.MaxSource, api.OK)
		counted.checkPosition(t, src, api.MaxSource+1, api.Position{}, api.ErrInvalid)
	}
}
