package value

import (
	"graphdb/api"
	"graphdb/frac"
	"graphdb/num"
	"strings"
)

// Text returns the text of v, from which a valid value can be told. It returns ? if v is not valid.
func Text(v api.Value) string {
	if !Valid(v) {
		return "?"
	}
	return textValid(v)
}

// textValid is Text for valid values.
func textValid(v api.Value) string {
	switch v.Kind {
	case api.VBool:
		if v.N == 1 {
			return "true"
		}
		return "false"
	case api.VInt, api.VRat:
		return frac.Text(fraction(v))
	case api.VStr:
		return "'" + strings.ReplaceAll(v.S, "'", "''") + "'"
	case api.VNode:
		return "#" + num.Text(v.N)
	case api.VEdge:
		return "@" + num.Text(v.N)
	case api.VList:
		return "[" + strings.Join(texts(v.L), ", ") + "]"
	case api.VPath:
		return "<" + strings.Join(texts(v.L), " ") + ">"
	}
	return "null"
}

// texts returns the texts of valid values.
func texts(l []api.Value) []string {
	all := make([]string, len(l))
	for i, v := range l {
		all[i] = textValid(v)
	}
	return all
}
