package vol

import (
	"undercroft/api"
)

// overlay is blocks that were put over a base. The bytes of one that was put are never changed: another put takes their place.
type overlay struct {
	base Base
	put  map[int][]byte
}

// look is a block's bytes where they stand: they are the overlay's, or the base's, and not for changing.
func (o *overlay) look(b int) ([]byte, error) {
	if data, laid := o.put[b]; laid {
		return data, nil
	}
	data, err := o.base.Block(b)
	if err != nil {
		return nil, err
	}
	if len(data) != api.BlockSize {
		return nil, api.ErrSize
	}
	return data, nil
}

// lay puts a block whose bytes nobody else has.
func (o *overlay) lay(b int, data []byte) { o.put[b] = data }
