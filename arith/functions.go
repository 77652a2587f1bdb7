package arith

import "sextant/api"

// kinds is a set of kinds of values: the bit 1 << k stands for the kind k.
type kinds uint

const (
	integers  kinds = 1 << api.KInt
	gaussians kinds = 1 << api.KGauss
	lists     kinds = 1 << api.KList
	sets      kinds = 1 << api.KSet
	rows      kinds = lists | sets
	anything  kinds = ^kinds(0)
)

// takes are the kinds of arguments that a function takes, from the first on; where it takes no argument there are none.
type takes [3]kinds

// function is a function of the language; gives is called with arguments that it takes, and that are right.
type function struct {
	name  string
	takes takes
	gives func(args []api.Value) (api.Value, api.Errno)
}

// table answers all functions, in the document's order. It is an array, not a slice: so a call makes no new memory of it.
func table() [21]function {
	return [...]function{
		{"size", takes{rows}, sizeOf},
		{"head", takes{lists}, headOf},
		{"last", takes{lists}, lastOf},
		{"tail", takes{lists}, tailOf},
		{"at", takes{lists, integers}, atOf},
		{"put", takes{lists, integers, anything}, putOf},
		{"push", takes{lists, anything}, pushOf},
		{"with", takes{sets, anything}, withOf},
		{"without", takes{sets, anything}, withoutOf},
		{"list", takes{sets}, listOf},
		{"set", takes{lists}, setOf},
		{"min", takes{rows}, leastOf},
		{"max", takes{rows}, greatestOf},
		{"range", takes{integers, integers}, rangeOf},
		{"subsets", takes{sets}, subsetsOf},
		{"gauss", takes{integers, integers}, gaussOf},
		{"re", takes{gaussians}, realOf},
		{"im", takes{gaussians}, imaginaryOf},
		{"conj", takes{gaussians}, conjugateOf},
		{"norm", takes{gaussians}, normOf},
		{"turn", takes{gaussians}, turned},
	}
}

// Call calls a function.
func Call(name string, args []api.Value) (api.Value, api.Errno) {
	if !right(args...) {
		return api.Value{}, api.ErrArg
	}
	f, ok := find(name)
	if !ok || !f.takes.fit(args) {
		return api.Value{}, api.ErrSort
	}
	return f.gives(args)
}

// Functions answers the names of all functions.
func Functions() []string {
	var names []string
	for _, f := range table() {
		names = append(names, f.name)
	}
	return names
}

// Arity tells how many arguments a function takes.
func Arity(name string) int {
	f, ok := find(name)
	if !ok {
		return -1
	}
	return f.takes.count()
}

func find(name string) (function, bool) {
	for _, f := range table() {
		if f.name == name {
			return f, true
		}
	}
	return function{}, false
}

func (t takes) count() int {
	n := 0
	for _, k := range t {
		if k != 0 {
			n++
		}
	}
	return n
}

// fit tells whether a function that takes these takes right arguments.
func (t takes) fit(args []api.Value) bool {
	if len(args) != t.count() {
		return false
	}
	for i, arg := range args {
		if t[i]&(1<<arg.Kind) == 0 {
			return false
		}
	}
	return true
}
