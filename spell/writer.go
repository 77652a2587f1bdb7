package spell

import "strings"

// writer gathers a text. (Texts of parts are not made and put into those of greater parts: of many parts within one another that would copy too much.)
type writer struct {
	strings.Builder
}

// put writes pieces one behind the other.
func (w *writer) put(pieces ...string) {
	for _, p := range pieces {
		w.WriteString(p)
	}
}

// round writes something in round brackets.
func (w *writer) round(inner func()) {
	w.put("(")
	inner()
	w.put(")")
}

// list writes items with commas between them.
func list[T any](w *writer, items []T, write func(item T)) {
	for i, item := range items {
		if i > 0 {
			w.put(", ")
		}
		write(item)
	}
}

// enclosed writes items, with commas between them, and a mark ahead and one behind.
func enclosed[T any](w *writer, opening, closing string, items []T, write func(item T)) {
	w.put(opening)
	list(w, items, write)
	w.put(closing)
}

// tuple writes items in round brackets; one alone has a comma behind it.
func tuple[T any](w *writer, items []T, write func(item T)) {
	w.round(func() {
		list(w, items, write)
		if len(items) == 1 {
			w.put(",")
		}
	})
}

// lines writes things, each in a line of its own.
func lines[T any](w *writer, indent string, things []T, write func(thing T)) {
	for _, thing := range things {
		w.put(indent)
		write(thing)
		w.put("\n")
	}
}
