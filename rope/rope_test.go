package rope_test

import (
	"math"
	"math/rand"
	"slices"
	"strings"
	"testing"

	"glossator/api"
	"glossator/rope"
	"glossator/textedit"
)

func edit(start, end int, text string) api.TextEdit {
	return api.TextEdit{Start: start, End: end, NewText: text}
}

func list(edits ...api.TextEdit) []api.TextEdit { return edits }

// mixed returns a string of the given length in which a byte that is moved or
// lost shows.
func mixed(length int) string {
	text := make([]byte, length)
	for i := range text {
		text[i] = byte(i*7 + i/256)
	}
	return string(text)
}

// contents are strings of which ropes of one leaf and of many leaves consist.
func contents() []string {
	texts := []string{"", "a", "abc", "\x00", "\xff\xfe\x80", "a\n\U0001F600b"}
	for _, length := range []int{31, 32, 33, 63, 64, 65, 66, 96, 97, 128, 129, 500, api.MaxSource, api.MaxSource + 1} {
		texts = append(texts, mixed(length))
	}
	return texts
}

// byBytes returns a rope that was put together from ropes of one byte.
func byBytes(text string) rope.Rope {
	var r rope.Rope
	for i := range len(text) {
		r = r.Concat(rope.New(text[i : i+1]))
	}
	return r
}

// doubled returns a rope of one byte that was appended to itself the given
// number of times.
func doubled(times int) rope.Rope {
	r := rope.New("a")
	for range times {
		r = r.Concat(r)
	}
	return r
}

// minLeaves returns the least number of leaves of an AVL tree, a Fibonacci
// number.
func minLeaves(height int) int {
	first, second := 1, 1
	for range height {
		first, second = second, first+second
	}
	return second
}

// checkContents checks the contents of a rope in all ways in which they can be
// read, and its shape.
func checkContents(t *testing.T, what string, r rope.Rope, want string) {
	t.Helper()
	if got := r.String(); got != want {
		t.Errorf("%s: String = %q, want %q", what, got, want)
	}
	if got := r.Len(); got != len(want) {
		t.Errorf("%s: Len = %d, want %d", what, got, len(want))
	}
	for i := range len(want) {
		if got, err := r.ByteAt(i); got != want[i] || err != api.OK {
			t.Errorf("%s: ByteAt(%d) = %d, error %d, want %d", what, i, got, err, want[i])
			break
		}
	}
	for _, i := range []int{len(want), len(want) + 1, -1, math.MaxInt, math.MinInt} {
		if got, err := r.ByteAt(i); got != 0 || err != api.ErrInvalid {
			t.Errorf("%s: ByteAt(%d) = %d, error %d, want error %d", what, i, got, err, api.ErrInvalid)
		}
	}
	checkShape(t, what, r, len(want))
}

// checkShape checks the shape that the document requires of a rope of the given
// length.
func checkShape(t *testing.T, what string, r rope.Rope, length int) {
	t.Helper()
	height, leaves := r.Shape()
	if length == 0 {
		if height != 0 || leaves != 0 {
			t.Errorf("%s: Shape of the empty rope = %d, %d", what, height, leaves)
		}
		return
	}
	if height < 0 || leaves < minLeaves(height) || leaves > length || height < 62 && leaves > 1<<height {
		t.Errorf("%s: Shape = %d, %d for %d bytes", what, height, leaves, length)
	}
}

func TestContents(t *testing.T) {
	checkContents(t, "zero value", rope.Rope{}, "")
	for _, text := range contents() {
		checkContents(t, "New", rope.New(text), text)
		checkContents(t, "ropes of one byte", byBytes(text), text)
	}
}

func TestConcat(t *testing.T) {
	for _, c := range []struct{ left, right, want string }{
		{"", "", ""},
		{"", "abc", "abc"},
		{"abc", "", "abc"},
		{"ab", "c", "abc"},
		{"c", "ab", "cab"},
		{"\xf0\x9f", "\x98\x80", "\U0001F600"},
	} {
		left, right := rope.New(c.left), rope.New(c.right)
		checkContents(t, "Concat", left.Concat(right), c.want)
		checkContents(t, "left operand", left, c.left)
		checkContents(t, "right operand", right, c.right)
	}
	for _, left := range contents() {
		for _, right := range contents() {
			checkContents(t, "Concat", rope.New(left).Concat(rope.New(right)), left+right)
		}
	}
}

func TestSplitExample(t *testing.T) {
	r := rope.New("abc")
	front, back, err := r.Split(2)
	if err != api.OK {
		t.Errorf("Split(2): error %d", err)
	}
	checkContents(t, "front", front, "ab")
	checkContents(t, "back", back, "c")
	checkContents(t, "operand", r, "abc")
	checkContents(t, "back and front", back.Concat(front), "cab")
	checkContents(t, "the rope twice", r.Concat(r), "abcabc")
}

func TestSplitEverywhere(t *testing.T) {
	for _, text := range []string{"", "a", mixed(33), mixed(67), mixed(600)} {
		for _, r := range []rope.Rope{rope.New(text), byBytes(text)} {
			for i := range len(text) + 1 {
				front, back, err := r.Split(i)
				if err != api.OK {
					t.Fatalf("Split(%d) of %d bytes: error %d", i, len(text), err)
				}
				checkContents(t, "front", front, text[:i])
				checkContents(t, "back", back, text[i:])
			}
			checkContents(t, "operand", r, text)
		}
	}
}

func TestSplitErrors(t *testing.T) {
	for _, text := range contents() {
		for _, i := range []int{-1, len(text) + 1, math.MinInt, math.MaxInt} {
			front, back, err := rope.New(text).Split(i)
			if err != api.ErrInvalid || front != (rope.Rope{}) || back != (rope.Rope{}) {
				t.Errorf("Split(%d) of %d bytes = %v, %v, error %d, want error %d", i, len(text), front, back, err, api.ErrInvalid)
			}
		}
	}
}

// applyCalls are lists of edits, valid and invalid, with the error that
// textedit.Validate has to return for them.
func applyCalls() []applyCall {
	long := mixed(api.MaxSource)
	return []applyCall{
		{"one edit", "abc", list(edit(1, 2, "xy")), api.OK},
		{"no edits", "abc", nil, api.OK},
		{"no edits of nothing", "", []api.TextEdit{}, api.OK},
		{"into the empty rope", "", list(edit(0, 0, "new")), api.OK},
		{"an edit without effect", "abc", list(edit(2, 2, "")), api.OK},
		{"everything is deleted", mixed(100), list(edit(0, 100, "")), api.OK},
		{"at both ends", mixed(100), list(edit(0, 0, "<"), edit(100, 100, ">")), api.OK},
		{"edits of one leaf", "abcdef", list(edit(1, 2, "xy"), edit(4, 4, "z")), api.OK},
		{"edits of several leaves", mixed(500), list(edit(0, 40, "x"), edit(41, 41, mixed(70)), edit(99, 460, "\xff")), api.OK},
		{"most edits", mixed(500), everyThird(api.MaxEdits, "xy"), api.OK},
		{"longest result", "abc", list(edit(3, 3, mixed(api.MaxSource-3))), api.OK},
		{"longest rope", long, list(edit(7, 9, "xy")), api.OK},
		{"growing before shrinking", long, list(edit(0, 0, mixed(70)), edit(900, 970, "")), api.OK},
		{"negative start", "abc", list(edit(-1, 0, "")), api.ErrMalformed},
		{"end before start", "abc", list(edit(2, 1, "")), api.ErrMalformed},
		{"end behind the rope", "abc", list(edit(0, 4, "")), api.ErrMalformed},
		{"behind the empty rope", "", list(edit(1, 1, "")), api.ErrMalformed},
		{"smallest and largest integers", "abc", list(edit(math.MinInt, math.MaxInt, "")), api.ErrMalformed},
		{"adjacent edits", "abc", list(edit(0, 1, ""), edit(1, 2, "")), api.ErrMalformed},
		{"unsorted edits", "abc", list(edit(2, 3, ""), edit(0, 1, "")), api.ErrMalformed},
		{"too many edits", long, everyThird(api.MaxEdits+1, ""), api.ErrTooLarge},
		{"too many edits before malformed", "abc", make([]api.TextEdit, api.MaxEdits+1), api.ErrTooLarge},
		{"long result", "abc", list(edit(3, 3, long)), api.ErrTooLarge},
		{"malformed before a long result", "abc", list(edit(0, 0, long), edit(0, 0, "")), api.ErrMalformed},
		{"long rope", long + "a", nil, api.ErrTooLarge},
		{"long rope that the edits shorten", long + "a", list(edit(0, 2, "")), api.ErrTooLarge},
		{"long rope before malformed", long + "a", list(edit(2, 1, "")), api.ErrTooLarge},
	}
}

type applyCall struct {
	what   string
	source string
	edits  []api.TextEdit
	err    api.Errno
}

// everyThird returns edits of the bytes 0, 3, 6, ...
func everyThird(count int, text string) []api.TextEdit {
	var edits []api.TextEdit
	for i := range count {
		edits = append(edits, edit(3*i, 3*i+1, text))
	}
	return edits
}

// checkApply compares a rope after edits with textedit.Apply.
func checkApply(t *testing.T, what string, r rope.Rope, source string, edits []api.TextEdit) {
	t.Helper()
	before := slices.Clone(edits)
	want, wantErr := textedit.Apply(source, edits)
	got, err := r.Apply(edits)
	if err != wantErr {
		t.Errorf("%s: error %d, want %d", what, err, wantErr)
	}
	if wantErr != api.OK && got != (rope.Rope{}) {
		t.Errorf("%s: a rope of %d bytes with an error", what, got.Len())
	}
	checkContents(t, what, got, want)
	checkContents(t, what+": operand", r, source)
	if !slices.Equal(edits, before) {
		t.Errorf("%s: the edits were modified", what)
	}
}

func TestApply(t *testing.T) {
	for _, c := range applyCalls() {
		if err := textedit.Validate(c.source, c.edits); err != c.err {
			t.Errorf("%s: Validate: error %d, want %d", c.what, err, c.err)
		}
		checkApply(t, c.what, rope.New(c.source), c.source, c.edits)
		checkApply(t, c.what+", ropes of one byte", byBytes(c.source), c.source, c.edits)
	}
}

// Two edits with all starts and ends around the ends of leaves are tried.
func TestApplyAllPairs(t *testing.T) {
	source := mixed(66)
	r := rope.New(source)
	offsets := []int{-1, 0, 1, 32, 33, 34, 65, 66, 67}
	for _, firstStart := range offsets {
		for _, firstEnd := range offsets {
			for _, secondStart := range offsets {
				for _, secondEnd := range offsets {
					checkApply(t, "Apply", r, source, list(edit(firstStart, firstEnd, ""), edit(secondStart, secondEnd, "xyz")))
				}
			}
		}
	}
}

func TestShapeOfLeaves(t *testing.T) {
	for _, r := range []rope.Rope{rope.New("a"), rope.New("").Concat(rope.New("abc"))} {
		if height, leaves := r.Shape(); height != 0 || leaves != 1 {
			t.Errorf("Shape of a leaf = %d, %d", height, leaves)
		}
	}
	if height, leaves := rope.New(mixed(api.MaxSource)).Shape(); height < 1 || leaves < 2 {
		t.Errorf("Shape of the longest source = %d, %d", height, leaves)
	}
}

// The operations that would make a tree without rotations the least balanced.
func TestShapeAfterOneSidedConcats(t *testing.T) {
	part := rope.New(mixed(40))
	var appended, prepended, growing rope.Rope
	for i := range 1000 {
		appended = appended.Concat(part)
		prepended = part.Concat(prepended)
		growing = rope.New(mixed(i + 1)).Concat(growing)
		checkShape(t, "appended", appended, 40*(i+1))
		checkShape(t, "prepended", prepended, 40*(i+1))
		checkShape(t, "growing", growing, growing.Len())
	}
	for length := 40000; length > 0; length -= 13 {
		var err api.Errno
		if appended, _, err = appended.Split(length); err != api.OK {
			t.Fatalf("Split(%d): error %d", length, err)
		}
		if _, prepended, err = prepended.Split(prepended.Len() - length); err != api.OK {
			t.Fatalf("Split behind %d bytes: error %d", prepended.Len()-length, err)
		}
		checkShape(t, "front", appended, length)
		checkShape(t, "back", prepended, length)
	}
}

// A rope that was typed byte by byte, at the end or at the start, has no more
// leaves than a few times those of a rope that New returns.
func TestSmallLeavesAreJoined(t *testing.T) {
	text := mixed(api.MaxSource)
	_, want := rope.New(text).Shape()
	var prepended rope.Rope
	for i := len(text) - 1; i >= 0; i-- {
		prepended = rope.New(text[i : i+1]).Concat(prepended)
	}
	for _, r := range []rope.Rope{byBytes(text), prepended} {
		if _, leaves := r.Shape(); leaves > 2*want {
			t.Errorf("%d leaves, a new rope has %d", leaves, want)
		}
	}
}

// The contents of these ropes do not fit in the memory, but their subtrees are
// shared.
func TestHugeRopes(t *testing.T) {
	const times = 60
	r := doubled(times)
	if got := r.Len(); got != 1<<times {
		t.Errorf("Len = %d, want %d", got, 1<<times)
	}
	checkShape(t, "huge rope", r, 1<<times)
	for _, i := range []int{0, 1<<times - 1, 1<<times/3 + 1} {
		if got, err := r.ByteAt(i); got != 'a' || err != api.OK {
			t.Errorf("ByteAt(%d) = %d, error %d", i, got, err)
		}
		front, back, err := r.Split(i)
		if err != api.OK || front.Len() != i || back.Len() != 1<<times-i {
			t.Errorf("Split(%d) = ropes of %d and %d bytes, error %d", i, front.Len(), back.Len(), err)
		}
		checkShape(t, "front", front, i)
		checkShape(t, "back", back, 1<<times-i)
	}
	// Lengths that an int does not hold must not be taken for short ones.
	for times := 60; times < 70; times++ {
		if got, err := doubled(times).Apply(list(edit(0, 1, ""))); got != (rope.Rope{}) || err != api.ErrTooLarge {
			t.Errorf("Apply to %d doublings = a rope of %d bytes, error %d, want error %d", times, got.Len(), err, api.ErrTooLarge)
		}
	}
}

// No function may panic, although no string can have these contents.
func TestStringOfHugeRopes(t *testing.T) {
	for times := 50; times < 70; times++ {
		if got := doubled(times).String(); got != "" {
			t.Errorf("String of %d doublings = a string of %d bytes", times, len(got))
		}
	}
}

// expected is a rope and the contents that it has to keep.
type expected struct {
	rope rope.Rope
	text string
}

// operate returns the result of a random operation.
func operate(t *testing.T, random *rand.Rand, left, right expected) expected {
	t.Helper()
	at := random.Intn(len(left.text) + 1)
	front, back, err := left.rope.Split(at)
	if err != api.OK {
		t.Fatalf("Split(%d) of %d bytes: error %d", at, len(left.text), err)
	}
	switch random.Intn(5) {
	case 0:
		return expected{front, left.text[:at]}
	case 1:
		return expected{back, left.text[at:]}
	case 2:
		end := at + random.Intn(min(9, len(left.text)-at+1))
		edits := list(edit(at, end, mixed(random.Intn(60))))
		if text, err := textedit.Apply(left.text, edits); err == api.OK {
			r, err := left.rope.Apply(edits)
			if err != api.OK {
				t.Fatalf("Apply: error %d", err)
			}
			return expected{r, text}
		}
	}
	if len(left.text)+len(right.text) > 5000 {
		return expected{back.Concat(front), left.text[at:] + left.text[:at]}
	}
	return expected{left.rope.Concat(right.rope), left.text + right.text}
}

// No rope changes while others are made of it.
func TestRandomOperations(t *testing.T) {
	random := rand.New(rand.NewSource(1))
	ropes := []expected{{}, {rope.New("abc"), "abc"}, {rope.New(mixed(900)), mixed(900)}}
	for range 3000 {
		next := operate(t, random, ropes[random.Intn(len(ropes))], ropes[random.Intn(len(ropes))])
		checkContents(t, "result", next.rope, next.text)
		if t.Failed() {
			return
		}
		if len(ropes) < 60 {
			ropes = append(ropes, next)
		} else {
			ropes[random.Intn(len(ropes))] = next
		}
	}
	for _, kept := range ropes {
		checkContents(t, "a rope that was used", kept.rope, kept.text)
	}
}

func TestLargeRope(t *testing.T) {
	text := strings.Repeat(mixed(1000), 200)
	r := rope.New(text)
	checkContents(t, "large rope", r, text)
	checkContents(t, "large rope twice", r.Concat(r), text+text)
}
