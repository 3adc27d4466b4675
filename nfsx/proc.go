package nfsx

import "undercroft/api"

// MOUNT's procedures stand behind NFS's, so that one number tells which program's a procedure is.
const (
	mountNull = 100 + iota
	mountMnt
	mountDump
	mountUmnt
	mountUmntall
	mountExport
)

func isProcedure(n int) bool {
	return n >= api.PNull && n <= api.PCommit || n >= mountNull && n <= mountExport
}
