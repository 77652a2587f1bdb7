package spell

import (
	"sextant/api"
	"sextant/syntax"
	"sextant/text"
	"sextant/value"
)

func (w *writer) spec(s api.Spec) {
	for _, a := range s.Autos {
		w.auto(a)
	}
	lines(w, "", s.Binds, func(b api.Bind) { w.put("object ", b.Object, " is ", b.Auto, ";") })
}

func (w *writer) auto(a api.Auto) {
	kind := "automaton "
	if a.Table {
		kind = "table "
	}
	w.put(kind, a.Name, " ", mode(a.Mode), " arg ")
	w.sort(a.Arg)
	w.put(" reply ")
	w.sort(a.Reply)
	w.put(" state ")
	w.sort(a.State)
	w.put(" start ")
	w.expr(a.Start)
	w.put(" {\n")
	if a.Table {
		lines(w, "  ", a.Rows, w.row)
	} else {
		lines(w, "  ", a.Rules, w.rule)
	}
	w.put("}\n")
}

func mode(m api.Mode) string {
	switch m {
	case api.MLinear:
		return "linear"
	case api.MSet:
		return "set"
	case api.MInterval:
		return "interval"
	}
	return ""
}

func (w *writer) rule(r api.Rule) {
	w.put("rule ", r.Name)
	if len(r.Gens) > 0 {
		w.put(" for ")
		list(w, r.Gens, func(g api.Gen) {
			w.put(g.Name, " in ")
			w.expr(g.From)
		})
	}
	if !syntax.SameExpr(r.When, api.Expr{Kind: api.ELit, Value: value.Bool(true)}) {
		w.put(" when ")
		w.expr(r.When)
	}
	w.put(" give ")
	w.expr(r.Give)
	w.put(" next ")
	w.expr(r.Next)
	w.put(";")
}

func (w *writer) row(r api.Row) {
	w.put("row ")
	w.rowValue(r.From)
	enclosed(w, " { ", " }", r.Calls, func(c api.RowCall) {
		w.put(c.Who, " ", c.Op, " ")
		w.rowValue(c.Arg)
	})
	w.put(" gives")
	enclosed(w, " { ", " }", r.Replies, func(a api.RowReply) {
		w.put(a.Who, " ")
		w.rowValue(a.Value)
	})
	w.put(" next ")
	w.rowValue(r.To)
	w.put(";")
}

func (w *writer) sort(s api.Sort) {
	switch s.Kind {
	case api.SInt:
		w.put("int")
	case api.SBool:
		w.put("bool")
	case api.SSym:
		w.put("symbol")
	case api.SGauss:
		w.put("gauss")
	case api.STuple:
		tuple(w, s.Items, w.sort)
	case api.SList:
		enclosed(w, "list ", "", s.Items, w.sort)
	case api.SSet:
		enclosed(w, "set ", "", s.Items, w.sort)
	}
}

// rowValue writes nothing of a value that is not right: a list may be an item of itself, and the way down would not end.
func (w *writer) rowValue(v api.Value) {
	if value.Check(v) == api.OK {
		w.value(v)
	}
}

func (w *writer) value(v api.Value) {
	switch v.Kind {
	case api.KBool:
		w.put(truth(v.Int))
	case api.KInt:
		w.put(text.Decimal(v.Int))
	case api.KGauss:
		w.put("gauss(", text.Decimal(v.Int), ", ", text.Decimal(v.Im), ")")
	case api.KSym:
		w.put("#", v.Text)
	case api.KTuple:
		tuple(w, v.Items, w.value)
	case api.KList:
		enclosed(w, "[", "]", v.Items, w.value)
	case api.KSet:
		enclosed(w, "{", "}", v.Items, w.value)
	}
}

func truth(n int64) string {
	if n == 0 {
		return "false"
	}
	return "true"
}
