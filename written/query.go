package written

import (
	"slices"

	"chirograph/api"
	"chirograph/expr"
	"chirograph/lex"
	"chirograph/sample"
)

// Query of a text, which must be one: as a SELECT is written (P18.1), but without that word, and without FROM and what stands behind that.
func Query(text string) api.Query {
	tokens, _, why := lex.Cut(text)
	if why != api.OK {
		panic("no query: " + text)
	}
	r := reader{tokens}
	q := api.Query{Items: list(&r, r.item)}
	if r.takes("WHERE") {
		q.Where = r.expr()
	}
	if r.takes("GROUP", "BY") {
		q.Group = r.next(api.Name).Text
	}
	if r.takes("ORDER", "BY") {
		q.Sorts = list(&r, r.sort)
	}
	if r.takes("LIMIT") {
		q.Cut, q.Most = true, r.next(api.Number).Int
	}
	if len(r.tokens) > 0 {
		panic("no query: " + text)
	}
	return q
}

// reader of the tokens that are left.
type reader struct{ tokens []api.Token }

// list: one or more, a comma between.
func list[T any](r *reader, one func() T) []T {
	l := []T{one()}
	for r.takes(",") {
		l = append(l, one())
	}
	return l
}

// takes such words or signs, if they are the next ones.
func (r *reader) takes(marks ...string) bool {
	for i, mark := range marks {
		if i == len(r.tokens) || r.tokens[i].Kind == api.Quote || r.tokens[i].Text != mark {
			return false
		}
	}
	r.tokens = r.tokens[len(marks):]
	return true
}

// next token, which must be of such a Kind.
func (r *reader) next(kind int) api.Token {
	if len(r.tokens) == 0 || r.tokens[0].Kind != kind {
		panic("no such token")
	}
	t := r.tokens[0]
	r.tokens = r.tokens[1:]
	return t
}

func (r *reader) expr() api.Expr {
	x, to, _, why := expr.Ahead(r.tokens, 0)
	if why != api.OK {
		panic("no expression")
	}
	r.tokens = r.tokens[to:]
	return x
}

func (r *reader) item() api.Item {
	if r.takes("COUNT", "(", "*", ")") {
		return api.Item{Agg: api.Count}
	}
	agg := slices.IndexFunc([]string{api.Sum: "SUM", api.Min: "MIN", api.Max: "MAX"}, func(word string) bool { return word != "" && r.takes(word, "(") })
	if agg < 0 {
		return api.Item{Expr: r.expr()}
	}
	x := r.expr()
	if !r.takes(")") {
		panic("no item")
	}
	return api.Item{Agg: agg, Expr: x}
}

func (r *reader) sort() api.Sort {
	n := r.next(api.Number).Int
	return api.Sort{Item: n, Down: r.takes("DESC")}
}

// Queries of KeyedColumns of package sample, as they are written: each way to tell, with texts and without.
func Queries() []string {
	return []string{
		"t , x , t", "x + i , b AND TRUE , 'a' , t || 'b'", "t , t WHERE x > 1 AND ( x < 5 OR r IS NULL )", "t , x ORDER BY 1 DESC , 2", "t , 'a' ORDER BY 2 LIMIT 3", "t LIMIT 2", "x LIMIT 0",
		"MIN ( t ) , MAX ( t ) , MAX ( t ) , COUNT ( * )", "SUM ( x + i ) , MIN ( 'a' )", "t , t , MAX ( t ) , MIN ( t ) GROUP BY t", "t , COUNT ( * ) GROUP BY t ORDER BY 2 DESC , 1 LIMIT 3", "t , t GROUP BY t ORDER BY 1",
	}
}

// Refused queries of such columns: in one of the five rows of package sample, in a sum of them, or ahead of all rows.
func Refused() []string {
	return []string{"1 / ( x - 3 ) ORDER BY 1", "SUM ( 9223372036854775807 )", "x WHERE 1 / ( x - 3 ) = 0", "y", "SUM ( t ) ORDER BY 2"}
}

// Asked: a query as it is written, asked of the five rows of package sample, with spare room behind each list.
func Asked(text string) sample.Asked {
	return sample.Asked{Cols: sample.KeyedColumns(), Rows: sample.FiveRows(), Query: Query(text)}.Roomy()
}
