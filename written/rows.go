package written

import (
	"math"
	"strconv"
	"strings"

	"chirograph/api"
)

// Rows in short, one behind the other; a null is -.
func Rows(rows [][]api.Value) string {
	var l []string
	for _, row := range rows {
		var values []string
		for _, v := range row {
			values = append(values, value(v))
		}
		l = append(l, strings.Join(values, " "))
	}
	return strings.Join(l, "; ")
}

// value in short, if it may be.
func value(v api.Value) string {
	switch v {
	case api.Value{Kind: api.Bool}:
		return "false"
	case api.Value{Kind: api.Bool, Int: 1}:
		return "true"
	case api.Value{Kind: api.Int, Int: v.Int}:
		return strconv.Itoa(v.Int)
	case api.Value{Kind: api.Real, Bits: v.Bits}:
		return strconv.FormatFloat(math.Float64frombits(v.Bits), 'g', -1, 64)
	case api.Value{Kind: api.Text, Text: v.Text}:
		return "'" + v.Text + "'"
	case api.Value{}:
		return "-"
	}
	return "no value"
}
