package greentree_test

import (
	"math"
	"strconv"
	"testing"

	"glossator/api"
	"glossator/greentree"
)

// leafNode returns the node of an identifier.
func leafNode(text string) api.GreenNode {
	return api.GreenNode{Kind: api.TokenIdent, Width: len(text), Text: text}
}

// innerNode returns an inner node.
func innerNode(width int, children ...int) api.GreenNode {
	return api.GreenNode{Kind: api.NodePath, Width: width, Children: children}
}

func arenaOf(nodes ...api.GreenNode) api.GreenArena { return api.GreenArena{Nodes: nodes} }

// leaves returns an arena of n different identifiers.
func leaves(n int) api.GreenArena {
	var arena api.GreenArena
	for i := range n {
		arena.Nodes = append(arena.Nodes, leafNode(strconv.Itoa(i)))
	}
	return arena
}

// chain returns an arena of n nodes, each of which is the only child of the
// next one.
func chain(n int) api.GreenArena {
	arena := arenaOf(leafNode("a"))
	for i := range n - 1 {
		arena.Nodes = append(arena.Nodes, innerNode(1, i))
	}
	return arena
}

// doubling returns an arena of n nodes, each of which has the one before it
// twice as a child. The width of the node i is 2^i modulo 2^64.
func doubling(n int) api.GreenArena {
	arena := arenaOf(leafNode("a"))
	for i := range n - 1 {
		arena.Nodes = append(arena.Nodes, innerNode(1<<(i+1), i, i))
	}
	return arena
}

func checkValidate(t *testing.T, what string, arena api.GreenArena, want api.Errno) {
	t.Helper()
	if got := greentree.Validate(arena); got != want {
		t.Errorf("%s: Validate = %d, want %d", what, got, want)
	}
}

func TestValidArenas(t *testing.T) {
	for what, arena := range map[string]api.GreenArena{
		"nil":                      {},
		"empty":                    arenaOf(),
		"token":                    arenaOf(leafNode("a")),
		"token without text":       arenaOf(leafNode("")),
		"inner node":               arenaOf(innerNode(0)),
		"inner node, empty slice":  arenaOf(api.GreenNode{Children: []int{}}),
		"token, empty slice":       arenaOf(api.GreenNode{Kind: api.TokenEOF, Children: []int{}}),
		"one child":                arenaOf(leafNode("ab"), innerNode(2, 0)),
		"child of a child":         arenaOf(leafNode("ab"), innerNode(2, 0), innerNode(2, 1)),
		"equal children":           arenaOf(leafNode("ab"), innerNode(6, 0, 0, 0)),
		"children in any order":    arenaOf(leafNode("a"), leafNode("bc"), innerNode(4, 1, 0, 0)),
		"without a root":           arenaOf(leafNode("a"), leafNode("b"), innerNode(1, 0), innerNode(1, 1)),
		"text is bytes":            arenaOf(leafNode("\xff\x00é\n")),
		"other width of one child": arenaOf(leafNode("abc"), leafNode(""), innerNode(3, 0, 1)),
	} {
		checkValidate(t, what, arena, api.OK)
	}
}

// Every kind from TokenEOF on is a token, even if package api has no name for
// it, and every other one is an inner node.
func TestKinds(t *testing.T) {
	for _, kind := range []int{api.TokenEOF, api.TokenSpace, api.TokenUnexpected, 109, math.MaxInt} {
		checkValidate(t, "token", arenaOf(api.GreenNode{Kind: kind, Width: 1, Text: "a"}), api.OK)
		checkValidate(t, "token with a child",
			arenaOf(innerNode(0), api.GreenNode{Kind: kind, Children: []int{0}}), api.ErrMalformed)
		checkValidate(t, "token with a text and a child",
			arenaOf(innerNode(0), api.GreenNode{Kind: kind, Width: 1, Text: "a", Children: []int{0}}), api.ErrMalformed)
	}
	for _, kind := range []int{math.MinInt, -1, api.NodeNone, api.NodeFile, api.NodeError, api.NodeKinds, api.NodeParen, 99} {
		checkValidate(t, "inner node",
			arenaOf(leafNode("ab"), api.GreenNode{Kind: kind, Width: 2, Children: []int{0}}), api.OK)
		checkValidate(t, "inner node with a text",
			arenaOf(api.GreenNode{Kind: kind, Width: 1, Text: "a"}), api.ErrMalformed)
		checkValidate(t, "inner node with a text and no width",
			arenaOf(api.GreenNode{Kind: kind, Text: "a"}), api.ErrMalformed)
		checkValidate(t, "inner node with a text and a child",
			arenaOf(leafNode("ab"), api.GreenNode{Kind: kind, Width: 3, Text: "a", Children: []int{0}}), api.ErrMalformed)
	}
}

func TestChildrenAreEarlierNodes(t *testing.T) {
	for _, child := range []int{2, 3, 4, -1, -2, math.MinInt, math.MaxInt, 1 << 16, 1 << 32} {
		for what, children := range map[string][]int{
			"only child":   {child},
			"first child":  {child, 0, 1},
			"middle child": {0, child, 1},
			"last child":   {0, 1, child},
		} {
			checkValidate(t, what+" "+strconv.Itoa(child),
				arenaOf(leafNode(""), innerNode(0, 0), innerNode(0, children...), leafNode("a")), api.ErrMalformed)
		}
	}
	checkValidate(t, "child of itself", arenaOf(innerNode(0, 0)), api.ErrMalformed)
	checkValidate(t, "child of the first node", arenaOf(innerNode(0, -1)), api.ErrMalformed)
	checkValidate(t, "children of each other", arenaOf(innerNode(0, 1), innerNode(0, 0)), api.ErrMalformed)
}

func TestWidths(t *testing.T) {
	for _, width := range []int{0, 1, 3, 4, 5, -1, -2, math.MinInt, math.MaxInt} {
		token := leafNode("ab")
		token.Width = width
		checkValidate(t, "token", arenaOf(token), api.ErrMalformed)
		checkValidate(t, "inner node", arenaOf(leafNode("ab"), innerNode(width, 0)), api.ErrMalformed)
	}
	for _, width := range []int{0, 2, 4, 5} {
		checkValidate(t, "two children",
			arenaOf(leafNode("ab"), leafNode("c"), innerNode(width, 0, 1)), api.ErrMalformed)
	}
	checkValidate(t, "token without text", arenaOf(api.GreenNode{Kind: api.TokenIdent, Width: 1}), api.ErrMalformed)
	checkValidate(t, "no children", arenaOf(innerNode(1)), api.ErrMalformed)
	checkValidate(t, "width of bytes", arenaOf(api.GreenNode{Kind: api.TokenIdent, Width: 1, Text: "é"}), api.ErrMalformed)
	checkValidate(t, "last of three",
		arenaOf(leafNode("a"), innerNode(1, 0), innerNode(2, 1)), api.ErrMalformed)
}

// Widths are sums modulo 2^64.
func TestWidthsWrapAround(t *testing.T) {
	arena := doubling(70)
	if arena.Nodes[63].Width != math.MinInt || arena.Nodes[64].Width != 0 {
		t.Fatalf("widths of 2^63 and 2^64: %d, %d", arena.Nodes[63].Width, arena.Nodes[64].Width)
	}
	checkValidate(t, "2^69", arena, api.OK)
	// The widths of the nodes 0 to 62 have the sum 2^63-1, the greatest int.
	var children []int
	for i := range 63 {
		children = append(children, i)
	}
	checkValidate(t, "2^63-1, 2^64-1 and 2^64", arenaOf(append(arena.Nodes,
		innerNode(math.MaxInt, children...),
		innerNode(-1, 63, 70),
		innerNode(0, 71, 0))...), api.OK)
	for _, width := range []int{0, math.MaxInt, -1, math.MinInt + 1} {
		wrong := doubling(64)
		wrong.Nodes[63].Width = width
		checkValidate(t, "wrong 2^63", wrong, api.ErrMalformed)
	}
	wrong := doubling(65)
	wrong.Nodes[64].Width = math.MinInt
	checkValidate(t, "wrong 2^64", wrong, api.ErrMalformed)
}

func TestEqualNodes(t *testing.T) {
	a, b := leafNode("a"), leafNode("b")
	for what, arena := range map[string]api.GreenArena{
		"tokens":                     arenaOf(a, a),
		"tokens with another one":    arenaOf(a, b, a),
		"tokens without text":        arenaOf(leafNode(""), a, leafNode("")),
		"inner nodes":                arenaOf(a, innerNode(1, 0), innerNode(1, 0)),
		"inner nodes with others":    arenaOf(a, innerNode(1, 0), b, innerNode(1, 2), innerNode(1, 0)),
		"inner nodes, two children":  arenaOf(a, b, innerNode(2, 0, 1), innerNode(2, 0, 1)),
		"inner nodes, no children":   arenaOf(innerNode(0), innerNode(0)),
		"nil and empty children":     arenaOf(innerNode(0), api.GreenNode{Kind: api.NodePath, Children: []int{}}),
		"token, nil and empty":       arenaOf(a, api.GreenNode{Kind: a.Kind, Width: 1, Text: "a", Children: []int{}}),
		"last of the largest arenas": arenaOf(append(leaves(3999).Nodes, leafNode("3998"))...),
	} {
		checkValidate(t, what, arena, api.ErrMalformed)
	}
}

func TestDifferentNodes(t *testing.T) {
	a, b := leafNode("a"), leafNode("b")
	for what, arena := range map[string]api.GreenArena{
		"texts":                 arenaOf(a, b, leafNode("A"), leafNode("a "), leafNode("\x00a"), leafNode("a\x00")),
		"kinds of tokens":       arenaOf(a, api.GreenNode{Kind: api.TokenKeyword, Width: 1, Text: "a"}),
		"kinds of empty nodes":  arenaOf(innerNode(0), api.GreenNode{Kind: -api.NodePath}, api.GreenNode{Kind: 256 + api.NodePath, Text: ""}),
		"kinds of inner nodes":  arenaOf(a, innerNode(1, 0), api.GreenNode{Kind: api.NodeBlock, Width: 1, Children: []int{0}}),
		"order of children":     arenaOf(a, b, innerNode(2, 0, 1), innerNode(2, 1, 0)),
		"number of children":    arenaOf(leafNode(""), innerNode(0), innerNode(0, 0), innerNode(0, 0, 0), innerNode(0, 0, 0, 0)),
		"text like children":    arenaOf(leafNode("\x00\x00"), api.GreenNode{Width: 2, Children: []int{0}}, api.GreenNode{Children: nil}),
		"children of one width": arenaOf(a, b, innerNode(1, 0), innerNode(1, 1), innerNode(1, 2), innerNode(1, 3)),
	} {
		checkValidate(t, what, arena, api.OK)
	}
	// Nodes that have each pair of the indices around a carry as children.
	arena := leaves(520)
	for _, i := range []int{0, 1, 2, 10, 11, 12, 21, 110, 111, 255, 256, 257, 511, 512, 513} {
		for _, j := range []int{0, 1, 2, 10, 11, 12, 21, 110, 111, 255, 256, 257, 511, 512, 513} {
			width := arena.Nodes[i].Width + arena.Nodes[j].Width
			arena.Nodes = append(arena.Nodes, innerNode(width, i, j))
		}
	}
	checkValidate(t, "pairs of indices", arena, api.OK)
}

func TestLargestArenas(t *testing.T) {
	for what, arena := range map[string]func(int) api.GreenArena{
		"tokens": leaves, "chain": chain, "doubling": doubling,
	} {
		checkValidate(t, what, arena(3999), api.OK)
		checkValidate(t, what, arena(4000), api.OK)
		checkValidate(t, what, arena(4001), api.ErrTooLarge)
		checkValidate(t, what, arena(5000), api.ErrTooLarge)
	}
	checkValidate(t, "equal nodes", api.GreenArena{Nodes: make([]api.GreenNode, 4000)}, api.ErrMalformed)
	checkValidate(t, "too many equal nodes", api.GreenArena{Nodes: make([]api.GreenNode, 4001)}, api.ErrTooLarge)
	malformed := leaves(4001)
	malformed.Nodes[0].Width = 7
	checkValidate(t, "too many malformed nodes", malformed, api.ErrTooLarge)
	malformed.Nodes = malformed.Nodes[:4000]
	checkValidate(t, "malformed node", malformed, api.ErrMalformed)
	// The number of children has no limit.
	wide := innerNode(100000, make([]int, 100000)...)
	checkValidate(t, "many children", arenaOf(leafNode("a"), wide), api.OK)
	checkValidate(t, "many equal children", arenaOf(leafNode("a"), wide, wide), api.ErrMalformed)
}

// isValid says in the words of the chapter which arenas of at most 4000 nodes
// are valid.
func isValid(arena api.GreenArena) bool {
	for i, node := range arena.Nodes {
		width := len(node.Text)
		for _, child := range node.Children {
			if child < 0 || child >= i {
				return false
			}
			width += arena.Nodes[child].Width
		}
		token := node.Kind >= api.TokenEOF
		if width != node.Width || token && len(node.Children) > 0 || !token && node.Text != "" {
			return false
		}
		for _, earlier := range arena.Nodes[:i] {
			if sameNode(earlier, node) {
				return false
			}
		}
	}
	return true
}

func TestAllSmallArenas(t *testing.T) {
	var nodes []api.GreenNode
	for _, kind := range []int{99, 100} {
		for width := range 3 {
			for _, text := range []string{"", "a"} {
				for _, children := range [][]int{nil, {-1}, {0}, {1}, {2}, {0, 1}, {0, 0}} {
					nodes = append(nodes, api.GreenNode{Kind: kind, Width: width, Text: text, Children: children})
				}
			}
		}
	}
	check := func(arena api.GreenArena) {
		want := api.ErrMalformed
		if isValid(arena) {
			want = api.OK
		}
		if got := greentree.Validate(arena); got != want {
			t.Fatalf("Validate(%v) = %d, want %d", arena, got, want)
		}
	}
	for _, first := range nodes {
		check(arenaOf(first))
		for _, second := range nodes {
			check(arenaOf(first, second))
			for _, third := range nodes {
				check(arenaOf(first, second, third))
			}
		}
	}
}

func TestValidateLeavesTheArenaUnchanged(t *testing.T) {
	arena := doubling(5)
	greentree.Validate(arena)
	if !sameArena(arena, doubling(5)) {
		t.Errorf("arena after Validate: %v", arena)
	}
}
