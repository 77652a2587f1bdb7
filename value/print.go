package value

import (
	"strings"

	"sextant/api"
	"sextant/text"
)

// Print writes a value as a text.
func Print(v api.Value) (string, api.Errno) {
	if !right(v) {
		return "", api.ErrValue
	}
	return written(v), api.OK
}

func written(v api.Value) string {
	switch v.Kind {
	case api.KBool:
		if v.Int == 1 {
			return trueText
		}
		return falseText
	case api.KInt:
		return text.Decimal(v.Int)
	case api.KGauss:
		return writtenGauss(v.Int, v.Im)
	case api.KSym:
		return v.Text
	case api.KTuple:
		if len(v.Items) == 1 {
			return "(" + written(v.Items[0]) + ",)"
		}
		return "(" + writtenItems(v.Items) + ")"
	case api.KList:
		return "[" + writtenItems(v.Items) + "]"
	}
	return "{" + writtenItems(v.Items) + "}"
}

func writtenGauss(re, im int64) string {
	sign := ""
	if im >= 0 {
		sign = "+"
	}
	return text.Decimal(re) + sign + text.Decimal(im) + "i"
}

func writtenItems(items []api.Value) string {
	var texts []string
	for _, item := range items {
		texts = append(texts, written(item))
	}
	return strings.Join(texts, ", ")
}
