package arith

import (
	"sextant/api"
	"sextant/value"
)

func ofTruths(op string, a, b bool) (api.Value, api.Errno) {
	switch op {
	case "and":
		return value.Bool(a && b), api.OK
	case "or":
		return value.Bool(a || b), api.OK
	}
	return api.Value{}, api.ErrSort
}

func ofIntegers(op string, a, b int64) (api.Value, api.Errno) {
	switch op {
	case "+":
		return value.Int(a + b), api.OK
	case "-":
		return value.Int(a - b), api.OK
	case "*":
		return value.Int(a * b), api.OK
	case "/", "%":
		return divided(op, a, b)
	}
	return api.Value{}, api.ErrSort
}

// divided needs no care for the least integer by -1: Go's own / and % give it itself, and 0.
func divided(op string, a, b int64) (api.Value, api.Errno) {
	if b == 0 {
		return api.Value{}, api.ErrStuck
	}
	if op == "/" {
		return value.Int(a / b), api.OK
	}
	return value.Int(a % b), api.OK
}

func ofGaussians(op string, a, b complex128) (api.Value, api.Errno) {
	switch op {
	case "+":
		return fromComplex(a + b)
	case "-":
		return fromComplex(a - b)
	case "*":
		return fromComplex(a * b)
	}
	return api.Value{}, api.ErrSort
}

// toComplex loses nothing, and no operation here does: a product of two parts is at most api.MaxPart squared, 2^40, and floats hold all integers up to 2^53.
func toComplex(v api.Value) complex128 { return complex(float64(v.Int), float64(v.Im)) }

func fromComplex(z complex128) (api.Value, api.Errno) {
	return limited(value.Gauss(int64(real(z)), int64(imag(z))))
}

func gaussOf(args []api.Value) (api.Value, api.Errno) {
	return limited(value.Gauss(args[0].Int, args[1].Int))
}

func realOf(args []api.Value) (api.Value, api.Errno) { return value.Int(args[0].Int), api.OK }

func imaginaryOf(args []api.Value) (api.Value, api.Errno) { return value.Int(args[0].Im), api.OK }

func conjugateOf(args []api.Value) (api.Value, api.Errno) {
	return fromComplex(conjugate(toComplex(args[0])))
}

func normOf(args []api.Value) (api.Value, api.Errno) {
	z := toComplex(args[0])
	return value.Int(int64(real(z * conjugate(z)))), api.OK
}

func turned(args []api.Value) (api.Value, api.Errno) { return fromComplex(toComplex(args[0]) * 1i) }

func conjugate(z complex128) complex128 { return complex(real(z), -imag(z)) }
