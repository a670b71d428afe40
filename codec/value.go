package codec

import (
	"graphdb/api"
	"graphdb/value"
)

// PutValue returns the encoding of v, or nil if v is not valid.
func PutValue(v api.Value) []byte {
	if !value.Valid(v) {
		return nil
	}
	return closed(appendValue(nil, v))
}

// Value reads the value that begins at offset at, and returns it and the offset after it.
func Value(b []byte, at int) (api.Value, int, api.Errno) {
	if at < 0 || at > len(b) {
		return api.Value{}, 0, api.ErrArg
	}
	return valueAt(b, at, api.MaxNest)
}

// appendValue appends the encoding of the valid value v to out.
func appendValue(out []byte, v api.Value) []byte {
	out = append(out, byte(v.Kind))
	switch v.Kind {
	case api.VBool, api.VInt, api.VNode, api.VEdge:
		return appendInt(out, v.N)
	case api.VRat:
		return appendInt(appendInt(out, v.N), v.D)
	case api.VStr:
		return appendStr(out, v.S)
	case api.VList, api.VPath:
		out = appendVarint(out, uint64(len(v.L)))
		for _, e := range v.L {
			out = appendValue(out, e)
		}
	}
	return out
}

// valueAt reads a value whose lists are nested at most nest deep. The offset at is that of a byte of b or of its end.
func valueAt(b []byte, at, nest int) (api.Value, int, api.Errno) {
	if at == len(b) {
		return api.Value{}, 0, api.ErrShort
	}
	v := api.Value{Kind: int(b[at])}
	if v.Kind > api.VList || v.Kind == api.VList && nest <= 0 {
		return api.Value{}, 0, api.ErrSyntax
	}
	end, err := readFields(b, at+1, &v, nest)
	if err == api.OK && !value.Valid(v) {
		err = api.ErrSyntax
	}
	if err != api.OK {
		return api.Value{}, 0, err
	}
	return v, end, api.OK
}

// readFields reads the fields that the kind of v uses into v, and returns the offset after them.
func readFields(b []byte, at int, v *api.Value, nest int) (int, api.Errno) {
	var err api.Errno
	switch v.Kind {
	case api.VBool, api.VInt, api.VNode, api.VEdge:
		v.N, at, err = Int(b, at)
	case api.VRat:
		v.N, at, err = Int(b, at)
		if err == api.OK {
			v.D, at, err = Int(b, at)
		}
	case api.VStr:
		v.S, at, err = Str(b, at, api.MaxStr)
	case api.VList, api.VPath:
		v.L, at, err = elementsAt(b, at, v.Kind, nest-1)
	}
	return at, err
}

// elementsAt reads the number of elements and the elements of a list or path, whose lists are nested at most nest deep.
func elementsAt(b []byte, at, kind, nest int) ([]api.Value, int, api.Errno) {
	n, at, err := Uint(b, at)
	if err != api.OK {
		return nil, 0, err
	}
	if !mayHave(kind, n) {
		return nil, 0, api.ErrSyntax
	}
	l := make([]api.Value, n)
	for i := range l {
		// The byte of a kind decides before what follows it is read.
		if kind == api.VPath && at < len(b) && int(b[at]) != pathKind(i) {
			return nil, 0, api.ErrSyntax
		}
		l[i], at, err = valueAt(b, at, nest)
		if err != api.OK {
			return nil, 0, err
		}
	}
	return l, at, api.OK
}

// mayHave reports whether a list or path may have n elements.
func mayHave(kind, n int) bool {
	if kind == api.VPath {
		return n <= 2*api.MaxPath+1 && n%2 == 1
	}
	return n <= api.MaxList
}

// pathKind returns the kind of the element at index i of a path.
func pathKind(i int) int {
	if i%2 == 1 {
		return api.VEdge
	}
	return api.VNode
}
