package pretty_test

import (
	"math"
	"strings"
	"testing"

	"glossator/pretty"
)

func TestMeasure(t *testing.T) {
	for _, c := range []struct {
		src             string
		width           int
		overflow, lines int
	}{
		{"", 0, 0, 1},
		{"", -1, 0, 1},
		{"a", 0, 1, 1},
		{"a", 1, 0, 1},
		{"abc", 3, 0, 1},
		{"abc", 2, 1, 1},
		{"abc", 1, 2, 1},
		{"abc", 0, 3, 1},
		{"abc", -1, 3, 1},
		{"abc", math.MinInt, 3, 1},
		{"abc", math.MaxInt, 0, 1},
		{"\n", 0, 0, 2},
		{"\n", -5, 0, 2},
		{"\n\n\n", 0, 0, 4},
		{"a\n", 0, 1, 2},
		{"\na", 0, 1, 2},
		{"abc\nd\n", 2, 1, 3},
		{"abc\nde\n\nfghij", 2, 4, 4},
		{"abc\nde\n\nfghij", 4, 1, 4},
		{"abc\nde\n\nfghij", 5, 0, 4},
		{"a\nb", 2, 0, 2},
		// Line feeds alone end lines, and every byte counts.
		{"a\r\nb", 1, 1, 2},
		{"a\rb\vc\fd\u2028e", 4, 7, 1},
		{"é\n\xff\xfe", 1, 2, 2},
		{"  \n    \n", 2, 2, 3},
		{"\t\t\n", 1, 1, 2},
		{strings.Repeat("a", 1000), 200, 800, 1},
		{strings.Repeat("aaa\n", 1000), 2, 1000, 1001},
		{strings.Repeat("\n", 100000), 1000, 0, 100001},
	} {
		overflow, lines := pretty.Measure(c.src, c.width)
		if overflow != c.overflow || lines != c.lines {
			t.Errorf("Measure(%.20q, %d) = %d, %d, want %d, %d", c.src, c.width, overflow, lines, c.overflow, c.lines)
		}
	}
}
