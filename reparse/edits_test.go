package reparse_test

import (
	"math/rand"
	"strings"
	"testing"

	"glossator/api"
	"glossator/lexer"
	"glossator/reparse"
)

// program has items of every kind, and some with errors.
const program = `// glossator
use m::f as g;
pub use m::*;
pub fn main<T: A + B>(a: &mut T) -> int {
	let mut n: int = -1 + 2 * a.b(3).c; // loop
	while n < 3 { n = n + 1; }
	match s { E::V(x, _) => g!(x), true => |y| y, }
}
struct S<T> { a: T, b: fn(int) -> bool }
)) 1 pub
enum E { V(int), W }
trait T { type A; fn f(self: &Self); fn h() {} }
impl<T> T for S<T> { type A = int; fn f(self: &Self) { return; } }
const c: int = if a { "b" } else { 1 }
macro m(a) = a ! b
fn
impl S {}
`

// Every part of the program is deleted and replaced.
func TestEditsOfAllParts(t *testing.T) {
	texts := []string{"", " ", "x", "(", ")", "{", "}", ";", "::", "!", "\"", "/", "//", "\n", "fn ", "pub", ", const", "= 1"}
	for start := range len(program) + 1 {
		for _, length := range []int{0, 1, 2, 5, 17, 90, len(program)} {
			end := min(start+length, len(program))
			checkUpdate(t, program, edit(start, end, texts[(start+length)%len(texts)]))
		}
		for _, text := range texts {
			checkUpdate(t, program, edit(start, start, text))
		}
	}
}

// soup has the tokens of the grammar and some that it does not have.
func soup() []string {
	return append(lexer.Keywords(), strings.Fields(`a b _ 1 "s" :: => -> == && || ( ) { } [ < > , ; : . = + - * / ! & | # "`)...)
}

// randomText returns up to count tokens, most of which touch no others.
func randomText(random *rand.Rand, words []string, count int) string {
	text := ""
	for range random.Intn(count + 1) {
		text += words[random.Intn(len(words))] + []string{" ", " ", "\n", "", " // c\n"}[random.Intn(5)]
	}
	return text
}

// checkRandomEdits edits sources of random parts.
func checkRandomEdits(t *testing.T, seed int64, parts []string, edits int) {
	t.Helper()
	random := rand.New(rand.NewSource(seed))
	for range edits {
		src := randomText(random, parts, 12)
		start := random.Intn(len(src) + 1)
		end := min(len(src), start+random.Intn(8))
		if e := edit(start, end, randomText(random, soup(), 3)); len(apply(src, e)) <= api.MaxSource {
			checkUpdate(t, src, e)
		}
	}
}

func TestRandomEdits(t *testing.T) {
	checkRandomEdits(t, 1, soup(), 20000)
	starts := append(soup(), "use a", "use a::", "use a as b", "const c: int =", "const c", "macro m() = a", "macro m() = a !",
		"macro m() = a.b", "macro m() = -", "fn f()", "fn f() {", "fn f() ->", "impl S", "impl S {", "trait T {", "enum E {", "struct S {")
	checkRandomEdits(t, 2, starts, 20000)
	checkRandomEdits(t, 3, strings.SplitAfter(program, "\n"), 5000)
}

// Trees that are updated after every edit of a sequence are those of the source
// (P500).
func TestSequencesOfEdits(t *testing.T) {
	for _, step := range []int{1, 7, 61} {
		src, tree := "", treeOf(t, "")
		update := func(e api.TextEdit) {
			updated, _, err := reparse.Update(src, tree, e)
			src = apply(src, e)
			if want := treeOf(t, src); err != api.OK || !sameTree(updated, want) {
				t.Fatalf("Update to %q = %v, error %d, want %v", src, updated, err, want)
			}
			tree = updated
		}
		for i := range len(program) {
			update(edit(i, i, program[i:i+1]))
		}
		for at := 0; len(src) > 0; at += step {
			start := at % len(src)
			update(edit(start, start+1, ""))
		}
		for i := range len(program) {
			at := i * step % (len(src) + 1)
			update(edit(at, at, program[i:i+1]))
		}
	}
}
