package eval

import (
	"sextant/api"
	"sextant/arith"
	"sextant/value"
)

// run is one evaluation. The values that it goes by may share memory with one another and with what was handed in: none of them is ever changed.
type run struct {
	kinds map[api.ExprKind]kind
	scope map[string][]api.Value // of each name the values, the one that it means last
	begun int
}

func (r *run) bind(name string, v api.Value) { r.scope[name] = append(r.scope[name], v) }

// unbind takes back what was bound last.
func (r *run) unbind(name string) {
	values := r.scope[name]
	r.scope[name] = values[:len(values)-1]
}

func (r *run) value(e *api.Expr) (api.Value, api.Errno) {
	if r.begun == api.MaxWork {
		return api.Value{}, api.ErrStuck
	}
	r.begun++
	return r.kinds[e.Kind].value(r, e)
}

func (r *run) values(items []api.Expr) ([]api.Value, api.Errno) {
	var values []api.Value
	for i := range items {
		v, errno := r.value(&items[i])
		if errno != api.OK {
			return nil, errno
		}
		values = append(values, v)
	}
	return values, api.OK
}

func (r *run) truth(e *api.Expr) (bool, api.Errno) {
	v, errno := r.value(e)
	if errno == api.OK && v.Kind != api.KBool {
		errno = api.ErrSort
	}
	return v.Int == 1, errno
}

func literal(_ *run, e *api.Expr) (api.Value, api.Errno) { return e.Value, api.OK }

func named(r *run, e *api.Expr) (api.Value, api.Errno) {
	values := r.scope[e.Name]
	if len(values) == 0 {
		return api.Value{}, api.ErrName
	}
	return values[len(values)-1], api.OK
}

// row answers how an expression is worked out whose value is put together of its items' by one of layer 4's makers.
func row(gather func(...api.Value) (api.Value, api.Errno)) func(*run, *api.Expr) (api.Value, api.Errno) {
	return func(r *run, e *api.Expr) (api.Value, api.Errno) {
		items, errno := r.values(e.Items)
		if errno != api.OK {
			return api.Value{}, errno
		}
		v, errno := gather(items...)
		if errno != api.OK { // of right items nothing comes but what is too big
			return api.Value{}, api.ErrStuck
		}
		return v, api.OK
	}
}

func unary(r *run, e *api.Expr) (api.Value, api.Errno) {
	v, errno := r.value(&e.Items[0])
	if errno != api.OK {
		return api.Value{}, errno
	}
	return arith.Unary(e.Op, v)
}

func binary(r *run, e *api.Expr) (api.Value, api.Errno) {
	if e.Op == "and" || e.Op == "or" {
		return truths(r, e)
	}
	items, errno := r.values(e.Items)
	if errno != api.OK {
		return api.Value{}, errno
	}
	return arith.Binary(e.Op, items[0], items[1])
}

// truths works out `and` and `or`, whose second item is begun only where the first leaves it open.
func truths(r *run, e *api.Expr) (api.Value, api.Errno) {
	decides := e.Op == "or"
	truth, errno := r.truth(&e.Items[0])
	if errno == api.OK && truth != decides {
		truth, errno = r.truth(&e.Items[1])
	}
	if errno != api.OK {
		return api.Value{}, errno
	}
	return value.Bool(truth), api.OK
}

func choice(r *run, e *api.Expr) (api.Value, api.Errno) {
	truth, errno := r.truth(&e.Items[0])
	switch {
	case errno != api.OK:
		return api.Value{}, errno
	case truth:
		return r.value(&e.Items[1])
	}
	return r.value(&e.Items[2])
}

func let(r *run, e *api.Expr) (api.Value, api.Errno) {
	v, errno := r.value(&e.Items[0])
	if errno != api.OK {
		return api.Value{}, errno
	}
	r.bind(e.Name, v)
	v, errno = r.value(&e.Items[1])
	r.unbind(e.Name)
	return v, errno
}

func fold(r *run, e *api.Expr) (api.Value, api.Errno) {
	over, errno := r.value(&e.Items[0])
	switch {
	case errno != api.OK:
		return api.Value{}, errno
	case over.Kind != api.KList && over.Kind != api.KSet:
		return api.Value{}, api.ErrSort
	}
	soFar, errno := r.value(&e.Items[1])
	for _, item := range over.Items {
		if errno != api.OK {
			break
		}
		soFar, errno = turn(r, e, item, soFar)
	}
	return soFar, errno
}

// turn works out a fold's third item once.
func turn(r *run, e *api.Expr, item, soFar api.Value) (api.Value, api.Errno) {
	r.bind(e.Name, item)
	r.bind(e.Also, soFar)
	v, errno := r.value(&e.Items[2])
	r.unbind(e.Also)
	r.unbind(e.Name)
	return v, errno
}

func call(r *run, e *api.Expr) (api.Value, api.Errno) {
	args, errno := r.values(e.Items)
	if errno != api.OK {
		return api.Value{}, errno
	}
	return arith.Call(e.Op, args)
}

func field(r *run, e *api.Expr) (api.Value, api.Errno) {
	v, errno := r.value(&e.Items[0])
	if errno != api.OK {
		return api.Value{}, errno
	}
	// No tuple has so many items: so the place is one that any int holds.
	return arith.Field(v, int(min(e.Value.Int, api.MaxNodes)))
}
