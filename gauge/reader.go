package gauge

import (
	"strings"

	"remould/api"
)

// reader reads a text from its beginning. It panics where the text is wrong.
type reader struct {
	left string
}

// run passes over the digits that stand next, and returns them.
func (r *reader) run() string {
	rest := strings.TrimLeft(r.left, "0123")
	found := r.left[:len(r.left)-len(rest)]
	if len(found) < 1 || len(found) > api.MaxDigits {
		panic(api.ErrSyntax)
	}
	r.left = rest
	return found
}

// point passes over a point, and reports whether there was one.
func (r *reader) point() bool {
	rest, found := strings.CutPrefix(r.left, ".")
	r.left = rest
	return found
}

func (r *reader) end() {
	if r.left != "" {
		panic(api.ErrSyntax)
	}
}

// read returns the digits of a text.
func read(text string) (d digits, e api.Errno) {
	defer func() {
		if recover() != nil {
			d, e = digits{}, api.ErrSyntax
		}
	}()
	r := &reader{left: text}
	before, after := r.run(), ""
	if r.point() {
		after = r.run()
	}
	r.end()
	return newDigits(before, after), api.OK
}
