package textedit

import "glossator/api"

// Compose returns the canonical list of edits with the effect of applying
// first to the source and then second to the result.
func Compose(source string, first, second []api.TextEdit) ([]api.TextEdit, api.Errno) {
	intermediate, err := Apply(source, first)
	if err != api.OK {
		return nil, err
	}
	if err := Validate(intermediate, second); err != api.OK {
		return nil, err
	}
	final := rewrite(rewrite(trace(source), first), second)
	composed := canonical(len(source), final)
	if len(composed) > api.MaxEdits {
		return nil, api.ErrTooLarge
	}
	return composed, api.OK
}
