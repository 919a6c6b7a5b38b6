package pretty

import (
	"strings"

	"glossator/api"
)

// cost is what a layout is judged by.
type cost struct{ overflow, breaks int }

func (c cost) plus(d cost) cost { return cost{c.overflow + d.overflow, c.breaks + d.breaks} }

func (c cost) less(d cost) bool {
	if c.overflow != d.overflow {
		return c.overflow < d.overflow
	}
	return c.breaks < d.breaks
}

// place is a group, given by its index, that begins at a column.
type place struct{ group, column int }

// decision is the better one for a group outside of all flat groups, and the
// least cost of the group and all that follows it.
type decision struct {
	flat bool
	cost cost
}

// page is what pieces are laid out on. It remembers the decisions, because the
// number of layouts grows exponentially, but that of places does not.
type page struct {
	pieces    []piece
	width     int
	decisions map[place]decision
}

// layOut returns the best layout of pieces for a page width.
func layOut(pieces []piece, width int) string {
	p := page{pieces, width, map[place]decision{}}
	var out strings.Builder
	column, flatEnd := 0, 0
	for i, part := range pieces {
		switch {
		case part.kind == api.DocGroup:
			if i >= flatEnd && p.decide(i, column).flat {
				flatEnd = part.end
			}
		case part.kind == api.DocText || i < flatEnd:
			out.WriteString(part.text)
			column, _ = p.write(len(part.text), column)
		default:
			out.WriteString("\n" + strings.Repeat(" ", part.indent))
			column, _ = p.write(part.indent, 0)
		}
	}
	return out.String()
}

// write returns the column behind n bytes that begin at a column, and how many
// of them exceed the width. A column beyond the width counts as the width: all
// that follows on its line exceeds the width anyway.
func (p page) write(n, column int) (end, overflow int) {
	overflow = max(column+n-p.width, 0)
	return column + n - overflow, overflow
}

// decide returns the decision about the group with an index that begins at a
// column. If both of its layouts cost the same, it is flat.
func (p page) decide(index, column int) decision {
	at := place{index, column}
	if known, found := p.decisions[at]; found {
		return known
	}
	best := decision{false, p.least(index+1, column)}
	if group := p.pieces[index]; !group.broken {
		end, overflow := p.write(group.width, column)
		flat := p.least(group.end, end).plus(cost{overflow, 0})
		if !best.cost.less(flat) {
			best = decision{true, flat}
		}
	}
	p.decisions[at] = best
	return best
}

// least returns the least cost of the pieces from an index on, which is outside
// of all flat groups, if they begin at a column.
func (p page) least(index, column int) cost {
	var sum cost
	for i := index; i < len(p.pieces); i++ {
		part := p.pieces[i]
		switch part.kind {
		case api.DocGroup:
			return sum.plus(p.decide(i, column).cost)
		case api.DocText:
			end, overflow := p.write(len(part.text), column)
			column, sum = end, sum.plus(cost{overflow, 0})
		default:
			end, overflow := p.write(part.indent, 0)
			column, sum = end, sum.plus(cost{overflow, 1})
		}
	}
	return sum
}
