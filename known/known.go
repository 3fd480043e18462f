// Package known tells how an operation on something is known again.
package known

import (
	"strconv"

	"adjoint/api"
)

// Key is a text that two plain operations on what these numbers stand for share only if they are alike.
func Key(op api.Op, args []int) string {
	text := strconv.AppendInt(nil, op.Value, 10)
	for _, list := range [...][]int{{op.Kind}, op.Dims, op.At, op.Lo, op.Hi, op.Step, args} {
		// Where a list ends must be seen: what ends one may begin the next.
		text = append(text, ';')
		for _, n := range list {
			text = strconv.AppendInt(append(text, ' '), int64(n), 10)
		}
	}
	return string(text)
}
