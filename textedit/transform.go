package textedit

import "glossator/api"

// Transform resolves two concurrent lists of edits of the same source. The
// first result has the effect of left after right, the second one that of
// right after left; both ways lead to the same merged string.
func Transform(source string, left, right []api.TextEdit) ([]api.TextEdit, []api.TextEdit, api.Errno) {
	if err := Validate(source, left); err != api.OK {
		return nil, nil, err
	}
	if err := Validate(source, right); err != api.OK {
		return nil, nil, err
	}
	m := merge(source, left, right)
	if len(m.fromLeft) > api.MaxSource {
		return nil, nil, api.ErrTooLarge
	}
	leftAfterRight := canonical(m.rightLength, m.fromRight)
	rightAfterLeft := canonical(m.leftLength, m.fromLeft)
	if len(leftAfterRight) > api.MaxEdits || len(rightAfterLeft) > api.MaxEdits {
		return nil, nil, api.ErrTooLarge
	}
	return leftAfterRight, rightAfterLeft, api.OK
}

// merger builds the merged string twice: with origins in the result of left,
// and with origins in the result of right. It walks through both results at
// the same time; leftLength and rightLength are the lengths of the parts that
// it has passed.
type merger struct {
	fromLeft, fromRight     []tracedByte
	leftLength, rightLength int
}

// merge visits the offsets of the source in the order of the merged string.
func merge(source string, left, right []api.TextEdit) merger {
	var m merger
	leftEffect, rightEffect := effectOf(len(source), left), effectOf(len(source), right)
	for offset := 0; offset <= len(source); offset++ {
		m.insertLeft(leftEffect.insertion[offset])
		m.insertRight(rightEffect.insertion[offset])
		if offset < len(source) {
			m.visit(source[offset], leftEffect.deleted[offset], rightEffect.deleted[offset])
		}
	}
	return m
}

// insertLeft emits what left inserts at the current offset.
func (m *merger) insertLeft(text string) {
	for i := range len(text) {
		m.fromLeft = append(m.fromLeft, tracedByte{text[i], m.leftLength})
		m.fromRight = append(m.fromRight, tracedByte{text[i], inserted})
		m.leftLength++
	}
}

// insertRight emits what right inserts at the current offset.
func (m *merger) insertRight(text string) {
	for i := range len(text) {
		m.fromLeft = append(m.fromLeft, tracedByte{text[i], inserted})
		m.fromRight = append(m.fromRight, tracedByte{text[i], m.rightLength})
		m.rightLength++
	}
}

// visit emits a byte of the source if both lists retain it.
func (m *merger) visit(value byte, leftDeletes, rightDeletes bool) {
	if !leftDeletes && !rightDeletes {
		m.fromLeft = append(m.fromLeft, tracedByte{value, m.leftLength})
		m.fromRight = append(m.fromRight, tracedByte{value, m.rightLength})
	}
	// A byte that one list deletes is still in the result of the other one.
	if !leftDeletes {
		m.leftLength++
	}
	if !rightDeletes {
		m.rightLength++
	}
}

// effect says for every offset of a source what a list of edits does there.
type effect struct {
	insertion []string // also at the end of the source
	deleted   []bool
}

// effectOf returns the effect of valid edits of a source of the given length.
func effectOf(length int, edits []api.TextEdit) effect {
	e := effect{insertion: make([]string, length+1), deleted: make([]bool, length)}
	for _, edit := range edits {
		e.insertion[edit.Start] = edit.NewText
		for offset := edit.Start; offset < edit.End; offset++ {
			e.deleted[offset] = true
		}
	}
	return e
}
