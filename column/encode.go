package column

import (
	"graphdb/api"
	"graphdb/codec"
)

// Encode returns the encoding of c.
func Encode(c api.Column) []byte {
	if !Valid(c) {
		return nil
	}
	b := codec.PutUint(len(c.Nodes))
	node, edge := 0, 0
	for i, id := range c.Nodes {
		b = append(b, codec.PutUint(id-node)...)
		b = append(b, codec.PutUint(c.First[i+1]-c.First[i])...)
		node = id
		to := id
		for _, a := range row(c, i) {
			b = append(b, codec.PutInt(a.To-to)...)
			b = append(b, codec.PutInt(a.Edge-edge)...)
			to, edge = a.To, a.Edge
		}
	}
	return b
}

// Decode returns the column whose encoding is b.
func Decode(b []byte) (api.Column, api.Errno) {
	r := reader{b: b}
	c := r.column()
	switch {
	case r.err != api.OK:
		return api.Column{}, r.err
	case !Valid(c):
		return api.Column{}, api.ErrArg
	case r.at < len(b):
		return api.Column{}, api.ErrSyntax
	}
	return c, api.OK
}

// reader reads numbers from b, the next one from offset at, until one of them has the error err.
type reader struct {
	b   []byte
	at  int
	err api.Errno
}

// column reads a column, which need not be valid even if there is no error.
func (r *reader) column() api.Column {
	var c api.Column
	node := 0
	// The number of nodes can be far greater than what b holds, so nothing is allocated for it before they are read.
	for n := r.number(codec.Uint); n > 0 && r.err == api.OK; n-- {
		node = r.id(codec.Uint, node)
		c.Nodes = append(c.Nodes, node)
		c.First = append(c.First, len(c.To))
		r.row(&c, node)
	}
	if len(c.Nodes) > 0 {
		c.First = append(c.First, len(c.To))
	}
	return c
}

// row reads the row of the node with that id to the end of c.
func (r *reader) row(c *api.Column, id int) {
	n := r.number(codec.Uint)
	if n == 0 {
		r.fail(api.ErrArg)
	}
	to, edge := id, 0
	if len(c.Edge) > 0 {
		edge = c.Edge[len(c.Edge)-1]
	}
	for ; n > 0 && r.err == api.OK; n-- {
		to = r.id(codec.Int, to)
		edge = r.id(codec.Int, edge)
		c.To = append(c.To, to)
		c.Edge = append(c.Edge, edge)
	}
}

// id reads, with read, the difference between an id and the one before it, which is 0 for the first one, and returns the id.
func (r *reader) id(read func(b []byte, at int) (int, int, api.Errno), before int) int {
	step := r.number(read)
	// The step is compared rather than the sum, which may leave the range of int.
	if step < 1-before || step > api.MaxId-before {
		r.fail(api.ErrArg)
		return 0
	}
	return before + step
}

// number reads the next number with read, or returns 0 if there is an error.
func (r *reader) number(read func(b []byte, at int) (int, int, api.Errno)) int {
	if r.err != api.OK {
		return 0
	}
	n, at, err := read(r.b, r.at)
	r.at, r.err = at, err
	return n
}

// fail sets the error unless there is one already, since the first one counts.
func (r *reader) fail(err api.Errno) {
	if r.err == api.OK {
		r.err = err
	}
}
