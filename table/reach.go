package table

import "sextant/api"

// reached answers the states that rows lead to from the start, in no order; the start too.
func reached(rows []api.Row, start api.Value) []api.Value {
	next := map[string][]api.Value{} // by the bytes of the state ahead of them
	for _, row := range rows {
		from := key(row.From)
		next[from] = append(next[from], row.To)
	}
	known := map[string]struct{}{key(start): {}}
	states := []api.Value{start}
	for i := 0; i < len(states); i++ {
		for _, to := range next[key(states[i])] {
			k := key(to)
			if _, ok := known[k]; ok {
				continue
			}
			known[k] = struct{}{}
			states = append(states, copied(to))
		}
	}
	return states
}
