package rack

import (
	"strconv"
	"strings"

	"remould/api"
)

// reader reads a string from its beginning. It panics where the string is wrong, but not wherever it is no shape: it takes up the places that the string names, and passes over what follows from them.
type reader struct {
	left string
}

// skip passes over a mark, and reports whether it stands next.
func (r *reader) skip(mark string) bool {
	rest, found := strings.CutPrefix(r.left, mark)
	r.left = rest
	return found
}

// expect passes over a mark that must stand next.
func (r *reader) expect(mark string) {
	if !r.skip(mark) {
		panic(api.ErrSyntax)
	}
}

// place passes over the digits of a place of an order, and returns it.
func (r *reader) place(order int) int {
	rest := strings.TrimLeft(r.left, "0123456789")
	x, err := strconv.Atoi(r.left[:len(r.left)-len(rest)])
	if err != nil || x >= size(order) {
		panic(api.ErrSyntax)
	}
	r.left = rest
	return x
}

// set passes over a shape of an order, and returns the shape of the places that it names.
func (r *reader) set(order int) shape {
	if r.skip("-") {
		return empty{}
	}
	low := r.place(order)
	r.expect(":")
	high := r.place(order)
	named := single(order, low)
	if order == 0 {
		return insert(named, order, high)
	}
	r.expect("(")
	if r.skip(")") {
		return named
	}
	r.set(order - 1)
	for r.skip("|") {
		shelf := r.place(order - 1)
		r.expect(":")
		for _, spot := range placesOf(r.set(order - 1)) {
			named = insert(named, order, shelf*size(order-1)+spot)
		}
	}
	r.expect(")")
	return named
}

// read returns the shape of an order with this text. A string is a shape exactly if the set of the places that it names has this shape.
func read(text string, order int) (s shape, e api.Errno) {
	defer func() {
		if recover() != nil {
			s, e = empty{}, api.ErrSyntax
		}
	}()
	r := &reader{left: text}
	s = r.set(order)
	if textOf(s) != text {
		panic(api.ErrSyntax)
	}
	return s, api.OK
}
