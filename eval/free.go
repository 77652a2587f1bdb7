package eval

import "sextant/api"

// finder finds free names: those that are named where they are bound by nothing around.
type finder struct {
	bound map[string]int // how many bind a name there
	free  map[string]struct{}
}

// look gives up, and answers false, where expressions lie too deep within one another.
func (f *finder) look(e *api.Expr, deep int) bool {
	if deep == deepest {
		return false
	}
	if e.Kind == api.EName && f.bound[e.Name] == 0 {
		f.free[e.Name] = struct{}{}
	}
	for i := range e.Items {
		names := boundIn(e, i)
		f.bind(names, 1)
		if !f.look(&e.Items[i], deep+1) {
			return false
		}
		f.bind(names, -1)
	}
	return true
}

func (f *finder) bind(names []string, times int) {
	for _, name := range names {
		f.bound[name] += times
	}
}

// boundIn answers the names that an expression binds in its item at place i.
func boundIn(e *api.Expr, i int) []string {
	switch {
	case e.Kind == api.ELet && i == 1:
		return []string{e.Name}
	case e.Kind == api.EFold && i == 2:
		return []string{e.Name, e.Also}
	}
	return nil
}
