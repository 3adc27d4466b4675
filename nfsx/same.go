package nfsx

import "undercroft/api"

// What cannot be held against another one whole is told in arrays, which can.

func argsNumbers(a api.Args) [13]uint64 {
	return [...]uint64{
		uint64(a.Access), a.Offset, uint64(a.Count),
		uint64(a.Stable), uint64(a.Mode), uint64(a.Type),
		a.Verf, a.Cookie, a.CookieVerf,
		uint64(a.DirCount), uint64(a.MaxCount),
		uint64(a.Spec1), uint64(a.Spec2),
	}
}

func argsTexts(a api.Args) [5]string {
	return [...]string{a.File, a.To, a.Name, a.ToName, a.Path}
}

func resNumbers(r api.Res) [10]uint64 {
	return [...]uint64{
		uint64(r.Status), uint64(r.Access), uint64(r.Count), uint64(r.Committed),
		r.Verf, r.CookieVerf,
		r.Bytes, r.FreeBytes, r.Files, r.FreeFiles,
	}
}

func resPosts(r api.Res) [4]api.Post {
	return [...]api.Post{r.Obj, r.Dir, r.After, r.ToAfter}
}
