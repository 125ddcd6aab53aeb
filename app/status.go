package app

// The statuses that are named by what they are for.
const (
	switching           = 101
	fine                = 200
	noContent           = 204
	partialContent      = 206
	notModified         = 304
	permanentRedirect   = 308
	badRequest          = 400
	notFound            = 404
	methodNotAllowed    = 405
	requestTimeout      = 408
	preconditionFailed  = 412
	tooLarge            = 413
	targetTooLong       = 414
	rangeNotSatisfiable = 416
	headTooLarge        = 431
	serverError         = 500
	notImplemented      = 501
	versionNotSupported = 505
)

// isGrave tells whether a status says that whoever asks should begin anew.
func isGrave(status int) bool {
	switch status {
	case badRequest, requestTimeout, tooLarge, targetTooLong, headTooLarge, serverError, versionNotSupported:
		return true
	}
	return false
}
