package sorts

import "sextant/api"

// head is what an automaton says of itself ahead of its rules or rows.
type head struct {
	linear, all       bool // whether a class is one call; whether each of its calls is answered at once
	arg, reply, state *tree
	calls, gives      *tree // the sorts of a class, if it may be more than one call, and of what a rule gives
}

func checkSpec(s *api.Spec) {
	autos := map[string]struct{}{}
	for i := range s.Autos {
		a := &s.Autos[i]
		once(autos, a.Name, a.At)
		checkAuto(a)
	}
	objects := map[string]struct{}{}
	for _, b := range s.Binds {
		once(objects, b.Object, b.At)
		if _, ok := autos[b.Auto]; !ok {
			giveUp(api.ErrNoAuto, b.At)
		}
	}
}

// once gives up at a name that there is already.
func once(names map[string]struct{}, name string, at api.Spot) {
	if _, ok := names[name]; ok {
		giveUp(api.ErrAgain, at)
	}
	names[name] = struct{}{}
}

func checkAuto(a *api.Auto) {
	h := headOf(a)
	if h == nil || a.Table && len(a.Rules) > 0 || !a.Table && len(a.Rows) > 0 {
		giveUp(api.ErrUnlike, a.At)
	}
	c := newChecker()
	c.exprWithin(&a.Start, h.state)
	h.bindNames(c)
	for i := range a.Rules {
		h.checkRule(c, &a.Rules[i])
	}
	for i := range a.Rows {
		if !h.takesRow(&a.Rows[i]) {
			giveUp(api.ErrRow, a.Rows[i].At)
		}
	}
}

// headOf answers nil, if a mode or a sort may not be.
func headOf(a *api.Auto) *head {
	h := &head{arg: readRight(a.Arg), reply: readRight(a.Reply), state: readRight(a.State)}
	switch a.Mode {
	case api.MLinear:
		h.linear, h.all = true, true
	case api.MSet:
		h.all = true
	case api.MInterval:
	default:
		return nil
	}
	h.gives = h.reply
	if !h.linear {
		h.calls = setOf(grow(api.STuple, plain(api.SSym), plain(api.SSym), h.arg))
		h.gives = setOf(grow(api.STuple, plain(api.SSym), h.reply))
	}
	if h.arg == nil || h.state == nil || h.gives == nil || !h.linear && h.calls == nil {
		return nil
	}
	return h
}

// bindNames binds the names that mean something in every rule.
func (h *head) bindNames(c *checker) {
	c.bind("state", h.state)
	if !h.linear {
		c.bind("calls", h.calls)
		return
	}
	c.bind("proc", plain(api.SSym))
	c.bind("op", plain(api.SSym))
	c.bind("arg", h.arg)
}

func (h *head) checkRule(c *checker, r *api.Rule) {
	for i := range r.Gens {
		c.bind(r.Gens[i].Name, c.gen(&r.Gens[i]))
	}
	c.exprWithin(&r.When, plain(api.SBool))
	c.exprWithin(&r.Give, h.gives)
	c.exprWithin(&r.Next, h.state)
	for _, g := range r.Gens {
		c.unbind(g.Name)
	}
}

// gen answers the sort of what a generator goes through.
func (c *checker) gen(g *api.Gen) *tree {
	if !isName(g.Name) {
		giveUp(api.ErrUnlike, g.At)
	}
	item := itemOfRow(c.expr(&g.From, nest{}))
	if item == nil {
		giveUp(api.ErrUnlike, g.From.At)
	}
	return item
}

// takesRow tells whether a row may stand in a table.
func (h *head) takesRow(r *api.Row) bool {
	if !fits(h.state, r.From) || !fits(h.state, r.To) {
		return false
	}
	waiting, ok := h.callsOf(r)
	return ok && h.takesReplies(r, waiting)
}

// callsOf answers who calls in a row; false, if its calls may not be.
func (h *head) callsOf(r *api.Row) (map[string]struct{}, bool) {
	callers := map[string]struct{}{}
	for _, call := range r.Calls {
		if !isSymbol(call.Op) || !fits(h.arg, call.Arg) {
			return nil, false
		}
		callers[call.Who] = struct{}{}
	}
	ok := len(callers) == len(r.Calls) && len(callers) > 0 && (!h.linear || len(callers) == 1)
	return callers, ok
}

// takesReplies takes each who is answered out of those who wait.
func (h *head) takesReplies(r *api.Row, waiting map[string]struct{}) bool {
	for _, reply := range r.Replies {
		if _, ok := waiting[reply.Who]; !ok || !fits(h.reply, reply.Value) {
			return false
		}
		delete(waiting, reply.Who)
	}
	return len(r.Replies) > 0 && (!h.all || len(waiting) == 0)
}
