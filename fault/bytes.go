package fault

import (
	"winnow/api"
	"winnow/nums"
)

// Encode writes faults.
func Encode(l []api.Fault) ([]byte, api.Errno) {
	if err := Check(l); err != api.OK {
		return nil, err
	}
	b := nums.Put(int64(len(l)))
	for _, f := range l {
		b = append(b, byte(f.Kind), byte(f.TaskKind))
		b = append(b, nums.Put(int64(f.Task))...)
		b = append(b, nums.Put(int64(f.Attempt))...)
		b = append(b, byte(f.Moment))
		b = append(b, nums.Put(int64(f.Reader))...)
		b = append(b, nums.Fixed(uint64(f.At), 8)...)
		b = append(b, nums.Fixed(uint64(f.Mask), 4)...)
	}
	return b, api.OK
}

// Decode reads them.
func Decode(b []byte) ([]api.Fault, api.Errno) {
	c := nums.NewCursor(b)
	l := make([]api.Fault, c.Num(api.MaxFaults))
	for i := range l {
		l[i] = next(c)
	}
	if c.End().Err != api.OK || Check(l) != api.OK {
		return nil, api.ErrFault
	}
	return l, api.OK
}

// next reads an entry. Whether it may be is asked by Check; the bounds here only see to it that a number is an int.
func next(c *nums.Cursor) api.Fault {
	var f api.Fault
	f.Kind = int(c.Fixed(1))
	f.TaskKind = int(c.Fixed(1))
	f.Task = int(c.Num(api.MaxParts))
	f.Attempt = int(c.Num(api.MaxTries))
	f.Moment = int(c.Fixed(1))
	f.Reader = int(c.Num(api.MaxParts))
	f.At = int64(c.Fixed(8))
	f.Mask = uint32(c.Fixed(4))
	return f
}
