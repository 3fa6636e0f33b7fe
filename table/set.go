package table

import (
	"slices"

	"chirograph/api"
	"chirograph/eval"
	"chirograph/kinds"
	"chirograph/known"
)

// checkSets of columns (P13.5).
func checkSets(l []api.Set, cols []api.Column) api.Errno {
	if len(l) < 1 || len(l) > api.MaxSets {
		return api.ErrSize
	}
	for i, s := range l {
		if why := checkSet(s, l[:i], cols); why != api.OK {
			return why
		}
	}
	return api.OK
}

// checkSet behind those that stand ahead of it.
func checkSet(s api.Set, ahead []api.Set, cols []api.Column) api.Errno {
	i := known.Column(s.Col, cols)
	switch {
	case i < 0:
		return api.ErrNone
	case slices.ContainsFunc(ahead, func(other api.Set) bool { return other.Col == s.Col }):
		return api.ErrTwice
	}
	kind, _, why := kinds.Of(s.Expr, cols)
	if why == api.OK && !fits(kind, cols[i].Kind) {
		return api.ErrKind
	}
	return why
}

// after: a row in which each column that is set has its new value. All of them are reckoned of the row as it was.
func after(row []api.Value, l []api.Set, cols []api.Column) ([]api.Value, api.Errno) {
	set := slices.Clone(row)
	for _, s := range l {
		i := known.Column(s.Col, cols)
		v, why := eval.Eval(s.Expr, cols, row)
		if why != api.OK {
			return nil, why
		}
		if v.Kind == api.Null && !cols[i].Null {
			return nil, api.ErrNull
		}
		set[i] = v
	}
	return set, api.OK
}
