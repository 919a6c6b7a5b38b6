package textedit

import "glossator/api"

// inserted is the origin of a byte that is not retained from the old string.
const inserted = -1

// tracedByte is a byte of a string that was made from an old string by edits.
// Origin is the offset of the byte in the old string, or inserted.
type tracedByte struct {
	value  byte
	origin int
}

// trace returns the bytes of a string that has not been edited yet.
func trace(source string) []tracedByte {
	text := make([]tracedByte, 0, len(source))
	for offset := range len(source) {
		text = append(text, tracedByte{source[offset], offset})
	}
	return text
}

// rewrite applies valid edits and keeps the origins of the retained bytes.
func rewrite(text []tracedByte, edits []api.TextEdit) []tracedByte {
	var result []tracedByte
	next := 0
	for _, edit := range edits {
		result = append(result, text[next:edit.Start]...)
		for i := range len(edit.NewText) {
			result = append(result, tracedByte{edit.NewText[i], inserted})
		}
		next = edit.End
	}
	return append(result, text[next:]...)
}

// canonical returns the canonical list of edits from an old string of the
// given length to text. The retained bytes are those that have an origin.
func canonical(length int, text []tracedByte) []api.TextEdit {
	var edits []api.TextEdit
	var gap []byte
	next := 0
	for _, b := range text {
		if b.origin == inserted {
			gap = append(gap, b.value)
			continue
		}
		edits = appendChange(edits, next, b.origin, gap)
		gap = gap[:0]
		next = b.origin + 1
	}
	return appendChange(edits, next, length, gap)
}

// appendChange appends the edit of the gap between two retained bytes, unless
// there is nothing in the gap.
func appendChange(edits []api.TextEdit, start, end int, newText []byte) []api.TextEdit {
	if start == end && len(newText) == 0 {
		return edits
	}
	return append(edits, api.TextEdit{Start: start, End: end, NewText: string(newText)})
}
