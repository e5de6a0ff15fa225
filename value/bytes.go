package value

import (
	"conductor/api"
	"conductor/pack"
)

// Put writes the kind of v, and what it has.
func Put(v api.Value) []byte {
	if Right(v) != api.OK {
		return nil
	}
	kind := []byte{byte(v.Kind)}
	if v.Kind == api.VkText {
		return pack.Join(kind, pack.Text(v.S))
	}
	return pack.Join(kind, pack.Int(v.N))
}

// Take gives the value at the front of b, and how many bytes it has.
func Take(b []byte) (api.Value, int, api.Errno) {
	r := pack.Read(b)
	v := api.Value{Kind: int(r.Byte())}
	if r.Err() != api.OK {
		return api.Value{}, 0, r.Err()
	}
	switch v.Kind {
	case api.VkInt, api.VkBool:
		v.N = r.Int()
	case api.VkText:
		v.S = r.Text(api.MaxText)
	}
	err := r.Err()
	if err == api.OK {
		err = Right(v)
	}
	if err != api.OK {
		return api.Value{}, 0, err
	}
	return v, len(b) - r.Left(), api.OK
}
